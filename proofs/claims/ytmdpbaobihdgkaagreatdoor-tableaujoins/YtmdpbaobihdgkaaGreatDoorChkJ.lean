/- fits, checkFrom, Check; the document's LtlKids. checkFrom, Check. -/
import Derived.Test.YtmdpbaobihdgkaaGreatDoorBaseJ
namespace Go.Proofs.YtmdpbaobihdgkaaGreatDoor
open Go.RowKit

theorem fit_no_cnt {t : Fml} (h : ¬ ((t.cnt : Int) = ar t.kind)) : fit t = false := by simp [fit, h]
theorem fit_atom {t : Fml} (h : (t.cnt : Int) = ar t.kind) (h3 : t.kind = 3) : fit t = decide (0 ≤ t.num ∧ t.num ≤ 63) := by simp [fit, h, h3]
theorem fit_other {t : Fml} (h : (t.cnt : Int) = ar t.kind) (h3 : t.kind ≠ 3) : fit t = decide (t.num = 0) := by simp [fit, h, h3]
theorem ar_out {k : Int} (h : k < 1 ∨ 11 < k) : ar k = -1 := by
  unfold ar
  rw [if_neg (by omega), if_neg (by omega), if_neg (by omega)]

set_option maxHeartbeats 1000000 in
theorem fits_any (t : Fml) (a : Option Addr) (cap : Nat) (w : World) (hk : kcAt w) :
    Calls Tryz.prog 124 #[.agg #[.int .i64 t.kind, .int .i64 t.num, .slice a t.cnt cap]] w fun e w' => e = .returned (.bool (fit t)) ∧ Below w.heap.size w w' := by
  have X1 : Hid (∀ x : Int, x = t.kind → ∀ y : Int, y = t.num → ∀ z : Nat, z = t.cnt → (¬ ((z : Int) = ar x) → fit t = false) ∧ ((z : Int) = ar x → x = 3 → fit t = decide (0 ≤ y ∧ y ≤ 63)) ∧ ((z : Int) = ar x → x ≠ 3 → fit t = decide (y = 0))) := by
    rintro x rfl y rfl z rfl
    exact ⟨fit_no_cnt, fit_atom, fit_other⟩
  obtain ⟨k, hk1⟩ : ∃ x, x = t.kind := ⟨_, rfl⟩
  obtain ⟨n, hn1⟩ : ∃ x, x = t.num := ⟨_, rfl⟩
  obtain ⟨c, hc1⟩ : ∃ x, x = t.cnt := ⟨_, rfl⟩
  have X : Hid ((¬ ((c : Int) = ar k) → fit t = false) ∧ ((c : Int) = ar k → k = 3 → fit t = decide (0 ≤ n ∧ n ≤ 63)) ∧ ((c : Int) = ar k → k ≠ 3 → fit t = decide (n = 0))) := X1.out k hk1 n hn1 c hc1
  rw [← hk1, ← hn1, ← hc1]
  clear hk1 hn1 hc1 X1
  have HK : Hid (kcAt w) := hk
  clear hk
  by_cases h1 : k < 1
  · have E : Hid (fit t = false) := X.out.1 (by show ¬ ((c : Int) = ar k); rw [ar_out (Or.inl h1)]; omega)
    have d1 : decide (k < 1) = true := decide_eq_true h1
    go_enter Tryz.func124, Tryz.ntmps124
    go_wp2
    go_quiet (fail)
    go_wp2
    go_ret
    exact ⟨ret_bool E.out.symm, below_drewN (box_below _ _) _⟩
  by_cases h2 : 11 < k
  · have E : Hid (fit t = false) := X.out.1 (by show ¬ ((c : Int) = ar k); rw [ar_out (Or.inr h2)]; omega)
    have d1 : decide (k < 1) = false := decide_eq_false h1
    have d2 : decide (11 < k) = true := decide_eq_true h2
    go_enter Tryz.func124, Tryz.ntmps124
    go_wp2
    go_quiet (fail)
    go_wp2
    go_ret
    exact ⟨ret_bool E.out.symm, below_drewN (box_below _ _) _⟩
  obtain ⟨q, rfl⟩ : ∃ q : Nat, k = q := ⟨k.toNat, by omega⟩
  have hq1 : 1 ≤ q := by omega
  have hq2 : q ≤ 11 := by omega
  have hc := HK.out q hq1 hq2
  have hb : 1 < w.heap.size := World.block_lt_of_cell? _ _ hc
  obtain ⟨r, hr⟩ : ∃ r, r = ar q := ⟨_, rfl⟩
  rw [← hr] at hc
  have HR : Hid (r = ar q) := hr
  clear hr
  have hq12 : (q : Int) < 12 := by omega
  have hq0 : (0 : Int) ≤ q := by omega
  have d1 : decide ((q : Int) < 1) = false := decide_eq_false h1
  have d2 : decide ((11 : Int) < q) = false := decide_eq_false h2
  by_cases h3 : (c : Int) = r
  · have h3b : ((c : Int) == r) = true := beq_iff_eq.2 h3
    have HC : Hid ((c : Int) = ar q) := h3.trans HR.out
    clear h3
    by_cases h4 : (q : Int) = 3
    · have h4b : ((q : Int) == 3) = true := beq_iff_eq.2 h4
      have E : Hid (fit t = decide (0 ≤ n ∧ n ≤ 63)) := X.out.2.1 HC.out h4
      clear h4
      by_cases h5 : 0 ≤ n
      · by_cases h6 : n ≤ 63
        · have E2 : Hid (fit t = true) := by rw [hid E.out]; exact hid (decide_eq_true ⟨h5, h6⟩)
          clear E
          go_enter Tryz.func124, Tryz.ntmps124
          go_wp2
          go_quiet (fail)
          go_wp2
          go_ret
          exact ⟨ret_bool E2.out.symm, below_drewN (box_below _ _) _⟩
        · have E2 : Hid (fit t = false) := by rw [hid E.out]; exact hid (decide_eq_false (fun hh => h6 hh.2))
          clear E
          go_enter Tryz.func124, Tryz.ntmps124
          go_wp2
          go_quiet (fail)
          go_wp2
          go_ret
          exact ⟨ret_bool ((decide_eq_false (by omega)).trans E2.out.symm), below_drewN (box_below _ _) _⟩
      · have E2 : Hid (fit t = false) := by rw [hid E.out]; exact hid (decide_eq_false (fun hh => h5 hh.1))
        clear E
        go_enter Tryz.func124, Tryz.ntmps124
        go_wp2
        go_quiet (fail)
        go_wp2
        go_ret
        exact ⟨ret_bool E2.out.symm, below_drewN (box_below _ _) _⟩
    · have h4b : ((q : Int) == 3) = false := beq_eq_false_iff_ne.2 h4
      have E : Hid (fit t = decide (n = 0)) := X.out.2.2 HC.out h4
      clear h4
      by_cases h5 : n = 0
      · have E2 : Hid (fit t = true) := by rw [hid E.out]; exact hid (decide_eq_true h5)
        have h5b : (n == 0) = true := beq_iff_eq.2 h5
        clear E h5
        go_enter Tryz.func124, Tryz.ntmps124
        go_wp2
        go_quiet (fail)
        go_wp2
        go_ret
        exact ⟨ret_bool E2.out.symm, below_drewN (box_below _ _) _⟩
      · have E2 : Hid (fit t = false) := by rw [hid E.out]; exact hid (decide_eq_false h5)
        have h5b : (n == 0) = false := beq_eq_false_iff_ne.2 h5
        clear E h5
        go_enter Tryz.func124, Tryz.ntmps124
        go_wp2
        go_quiet (fail)
        go_wp2
        go_ret
        exact ⟨ret_bool E2.out.symm, below_drewN (box_below _ _) _⟩
  · have h3b : ((c : Int) == r) = false := beq_eq_false_iff_ne.2 h3
    have E : Hid (fit t = false) := X.out.1 (fun hh => h3 (hh.trans HR.out.symm))
    clear h3
    go_enter Tryz.func124, Tryz.ntmps124
    go_wp2
    go_quiet (fail)
    go_wp2
    go_ret
    exact ⟨ret_bool E.out.symm, below_drewN (box_below _ _) _⟩

end Go.Proofs.YtmdpbaobihdgkaaGreatDoor

namespace Go.Proofs.YtmdpbaobihdgkaaGreatDoor
open Go.RowKit

/-- The counter in block b. -/
def Cnt (w : World) (b : Nat) (m : Int) : Prop := w.heap[b]? = some (.cells #[.int .i64 m] 3 (0, 0))

theorem Cnt.cell {w : World} {b : Nat} {m : Int} (h : Cnt w b m) : w.cell? ⟨b, 0, none⟩ = some (.int .i64 m) := by simp [World.cell?, show w.heap[b]? = _ from h]
theorem Cnt.frozen {w : World} {b : Nat} {m : Int} (h : Cnt w b m) : w.frozen? ⟨b, 0, none⟩ = false := by simp [World.frozen?, show w.heap[b]? = _ from h]
theorem Cnt.lt {w : World} {b : Nat} {m : Int} (h : Cnt w b m) : b < w.heap.size := (Array.getElem?_eq_some_iff.1 h).1
theorem Cnt.set {w : World} {b : Nat} {m : Int} (h : Cnt w b m) (k : Int) : Cnt (w.setCell ⟨b, 0, none⟩ (.int .i64 k)) b k := by
  have e : w.heap[b]? = some (.cells #[.int .i64 m] 3 (0, 0)) := h
  unfold Cnt World.setCell
  simp only [Array.getElem?_modify, if_true, e, Option.map_some]
  rfl
theorem Cnt.alloc {w : World} {b : Nat} {m : Int} (h : Cnt w b m) (o : Obj) : Cnt (w.alloc o) b m := (Go.Deep.blk_alloc_lt _ _ _ h.lt).trans h
theorem Cnt.below {w w' : World} {b : Nat} {m : Int} (h : Cnt w b m) (hb : Below w.heap.size w w') : Cnt w' b m := (hb.block b h.lt).trans h

set_option maxHeartbeats 4000000 in
theorem checkFrom_any (w0 : World) (hk : kcAt w0) : ∀ (t : Fml) (a : Option Addr) (cap d m nb : Nat) (w : World), Kds w0 t a → t.cnt ≤ 9223372036854775807 → Below w0.heap.size w0 w → w0.heap.size ≤ nb → Cnt w nb m → m ≤ 60 → d ≤ 21 →
    Calls Tryz.prog 92 #[.agg #[.int .i64 t.kind, .int .i64 t.num, .slice a t.cnt cap], .int .i64 d, .pointer (some ⟨nb, 0, none⟩)] w
      fun e w' => e = .returned (.int .i64 (chk t d m).1) ∧ Cnt w' nb (chk t d m).2 ∧ But nb w w' := by
  intro t
  induction t using Fml.ind with
  | h t ih =>
  intro a cap d m nb w hK hc hB hnb hC hm hd
  obtain ⟨b, o, ha, hkid⟩ := hK.out
  have E0 := chk_eq t d m
  generalize hkk : t.kind = k at *
  generalize hnn : t.num = n at *
  generalize hcc : t.cnt = c at *
  generalize hkd : t.kid = kid at *
  have E : Hid (chk t d m = if 60 < m + 1 then (2, m + 1) else if 20 < d then (5, m + 1) else if fit t = false then (1, m + 1) else chkAll (fun i x => chk (kid i) (d + 1) x) (m + 1) c) := E0
  clear E0
  have HK : Hid (kcAt w0 ∧ Below w0.heap.size w0 w ∧ w0.heap.size ≤ nb) := ⟨hk, hB, hnb⟩
  have HKid : Hid (∀ i, i < c → ∃ ai ci,
      w0.cell? ⟨b, o + i * 3, none⟩ = some (.int .i64 (kid i).kind) ∧ w0.cell? ⟨b, o + i * 3 + 1, none⟩ = some (.int .i64 (kid i).num) ∧
      w0.cell? ⟨b, o + i * 3 + 2, none⟩ = some (.slice ai (kid i).cnt ci) ∧ (kid i).cnt ≤ 9223372036854775807 ∧ Kds w0 (kid i) ai) := hkid
  have HA : Hid (0 < c → a = some ⟨b, o, none⟩) := ha
  have HC : Hid (Cnt w nb m) := hC
  have HIH := hid ih
  have hcell := hC.cell
  have hfz := hC.frozen
  have hlt := hC.lt
  clear hkid ha hK hC ih hB hnb hk
  show Calls Tryz.prog 92 #[.agg #[.int .i64 k, .int .i64 n, .slice a c cap], .int .i64 d, .pointer (some ⟨nb, 0, none⟩)] w
      fun e w' => e = .returned (.int .i64 (chk t d m).1) ∧ Cnt w' nb (chk t d m).2 ∧ But nb w w'
  have H2 : Hid (Cnt ((w.setCell ⟨nb, 0, none⟩ (.int .i64 ((m : Int) + 1))).alloc (.cells #[.int .i64 k, .int .i64 n, .slice a c cap] 24)) nb ((m : Int) + 1) ∧ But nb w ((w.setCell ⟨nb, 0, none⟩ (.int .i64 ((m : Int) + 1))).alloc (.cells #[.int .i64 k, .int .i64 n, .slice a c cap] 24))) :=
    ⟨(HC.out.set _).alloc _, (But.refl _ _).setCell 0 _ |>.alloc _⟩
  by_cases h1 : 60 < m + 1
  · have E1 : Hid (chk t d m = (2, m + 1)) := E.out.trans (if_pos h1)
    rw [E1.out]
    clear E
    go_enter Tryz.func92, Tryz.ntmps92
    go_wp2
    go_ret
    exact ⟨rfl, H2.out⟩
  have hm1 : m + 1 ≤ 60 := by omega
  by_cases h2 : 20 < d
  · have E1 : Hid (chk t d m = (5, m + 1)) := E.out.trans ((if_neg h1).trans (if_pos h2))
    rw [E1.out]
    clear E
    go_enter Tryz.func92, Tryz.ntmps92
    go_wp2
    go_ret
    exact ⟨rfl, H2.out⟩
  have E0 : Hid (chk t d m = if fit t = false then (1, m + 1) else chkAll (fun i x => chk (kid i) (d + 1) x) (m + 1) c) := E.out.trans ((if_neg h1).trans (if_neg h2))
  clear E
  obtain ⟨w1, hw1⟩ : ∃ x, x = (w.setCell ⟨nb, 0, none⟩ (.int .i64 ((m : Int) + 1))).alloc (.cells #[.int .i64 k, .int .i64 n, .slice a c cap] 24) := ⟨_, rfl⟩
  have hk4 : 1 < w0.heap.size := World.block_lt_of_cell? _ _ (HK.out.1 1 (by omega) (by omega))
  have HW1 : Hid (w1 = (w.setCell ⟨nb, 0, none⟩ (.int .i64 ((m : Int) + 1))).alloc (.cells #[.int .i64 k, .int .i64 n, .slice a c cap] 24)) := hw1
  have H1 : Hid (Cnt w1 nb ((m : Int) + 1) ∧ But nb w w1) := by rw [hid HW1.out]; exact H2.out
  have HBx : Hid (w1.cell? ⟨w.heap.size, 2, none⟩ = some (.slice a c cap)) := by
    have e : (w.setCell ⟨nb, 0, none⟩ (.int .i64 ((m : Int) + 1))).heap.size = w.heap.size := by simp [World.setCell]
    have := cell_of_alloc (w := w.setCell ⟨nb, 0, none⟩ (.int .i64 ((m : Int) + 1))) (c := #[.int .i64 k, .int .i64 n, .slice a c cap]) (t := 24) (i := 2) rfl
    rw [e] at this
    rw [hid HW1.out]
    exact this
  have HB0 : Hid (Below w0.heap.size w0 w1) := HK.out.2.1.trans (H1.out.2.below HK.out.2.2 HK.out.2.1.size)
  have C : Hid (Calls Tryz.prog 124 #[.agg #[.int .i64 k, .int .i64 n, .slice a c cap]] w1 fun e w' => e = .returned (.bool (fit t)) ∧ Below w1.heap.size w1 w') := by
    have := fits_any t a cap w1 (HK.out.1.below HB0.out hk4)
    rw [hkk, hnn, hcc] at this
    exact hid this
  clear H2 hw1
  obtain ⟨fi, hfi⟩ : ∃ x, x = fit t := ⟨_, rfl⟩
  rw [← hfi] at C E0
  have HFi : Hid (fi = fit t) := hfi
  clear hfi
  have hd20 : d ≤ 20 := by omega
  go_enter Tryz.func92, Tryz.ntmps92
  go_wp2_with fail
  rw [← HW1.out]
  refine C.out.mono ?_
  rintro e w2 ⟨rfl, hb2⟩
  have h22 : Hid (Cnt w2 nb ((m : Int) + 1) ∧ But nb w w2) := ⟨H1.out.1.below hb2, H1.out.2.trans (But.of_below hb2)⟩
  have hbx := below_cell hb2 (Nat.le_refl _) HBx.out
  clear C hb2 HB0 HW1 H1 HBx
  cases fi
  · have E1 : Hid (chk t d m = (1, m + 1)) := E0.out.trans (if_pos rfl)
    clear E0
    go_wp2
    go_ret
    rw [E1.out]
    exact ⟨rfl, h22.out⟩
  have E1 : Hid (chk t d m = chkAll (fun i x => chk (kid i) (d + 1) x) (m + 1) c) := E0.out.trans (if_neg (by decide))
  clear E0
  have HS : Hid (∀ j, (chkAll (fun i x => chk (kid i) (d + 1) x) (m + 1) j).2 ≤ 61 ∧ ((chkAll (fun i x => chk (kid i) (d + 1) x) (m + 1) j).1 = 0 → (chkAll (fun i x => chk (kid i) (d + 1) x) (m + 1) j).2 ≤ 60)) := fun j => chkAll_small hm1 j (fun i _ x hx => chk_small (kid i) (d + 1) x hx)
  go_wp2
  go_loopw [30] (fun i wr => ∃ j : Nat, j ≤ c ∧ i = .int .i64 j ∧ Hid ((chkAll (fun i x => chk (kid i) (d + 1) x) (m + 1) j).1 = 0 ∧ Cnt wr nb (chkAll (fun i x => chk (kid i) (d + 1) x) (m + 1) j).2 ∧ But nb w wr)) (fun i _ => c - (intOf i).toNat)
  case atStart => exact ⟨0, Nat.zero_le _, rfl, hid ⟨rfl, h22.out⟩⟩
  case round =>
    obtain ⟨j, hj, rfl, HJ⟩ := hrel
    by_cases hlt2 : j < c
    · obtain rfl := HA.out (by omega)
      obtain ⟨ai, ci, e1, e2, e3, e4, e5⟩ := HKid.out j hlt2
      have HB1 : Hid (Below w0.heap.size w0 wr) := HK.out.2.1.trans (HJ.out.2.2.below HK.out.2.2 HK.out.2.1.size)
      have f1 := below_cell HB1.out (Nat.le_refl _) e1
      have f2 := below_cell HB1.out (Nat.le_refl _) e2
      have f3 := below_cell HB1.out (Nat.le_refl _) e3
      have hjz : (j : Int) < c := by omega
      obtain ⟨m2, hm2⟩ : ∃ x, x = (chkAll (fun i x => chk (kid i) (d + 1) x) (m + 1) j).2 := ⟨_, rfl⟩
      have HM2 : Hid (m2 = (chkAll (fun i x => chk (kid i) (d + 1) x) (m + 1) j).2 ∧ m2 ≤ 60) := ⟨hm2, hm2 ▸ (HS.out j).2 HJ.out.1⟩
      have HR : Hid (chkAll (fun i x => chk (kid i) (d + 1) x) (m + 1) (j + 1) = chk (kid j) (d + 1) m2) := by
        show chkAll (fun i x => chk (kid i) (d + 1) x) (m + 1) (j + 1) = chk (kid j) (d + 1) m2
        rw [chkAll, if_pos HJ.out.1, ← hm2]
      clear hm2
      have C2 : Hid (Calls Tryz.prog 92 #[.agg #[.int .i64 (kid j).kind, .int .i64 (kid j).num, .slice ai (kid j).cnt ci], .int .i64 ((d : Int) + 1), .pointer (some ⟨nb, 0, none⟩)] (wr.alloc (.cells #[.int .i64 (kid j).kind, .int .i64 (kid j).num, .slice ai (kid j).cnt ci] 24))
          fun e w' => e = .returned (.int .i64 (chk (kid j) (d + 1) m2).1) ∧ Cnt w' nb (chk (kid j) (d + 1) m2).2 ∧ But nb (wr.alloc (.cells #[.int .i64 (kid j).kind, .int .i64 (kid j).num, .slice ai (kid j).cnt ci] 24)) w') := by
        have hcn : Cnt wr nb m2 := by rw [HM2.out.1]; exact HJ.out.2.1
        exact HIH.out j hlt2 ai ci (d + 1) m2 nb _ e5 e4 (HB1.out.alloc HB1.out.size _) HK.out.2.2 (hcn.alloc _) HM2.out.2 (by omega)
      obtain ⟨r, hr⟩ : ∃ x, x = chk (kid j) (d + 1) m2 := ⟨_, rfl⟩
      rw [← hr] at C2 HR
      obtain ⟨kk, hkk⟩ : ∃ x, x = kid j := ⟨_, rfl⟩
      rw [← hkk] at f1 f2 f3 C2
      clear hr hkk e1 e2 e3 e4 e5
      go_wp2_with fail
      refine C2.out.mono ?_
      rintro e w3 ⟨rfl, hc3, hb3⟩
      have H3 : Hid (Cnt w3 nb r.2 ∧ But nb w w3) := ⟨hc3, (HJ.out.2.2.alloc _).trans hb3⟩
      clear hc3 hb3 C2
      by_cases hr0 : r.1 = 0
      · have hrb : (r.1 == 0) = true := beq_iff_eq.2 hr0
        have HR0 : Hid (r.1 = 0) := hr0
        clear hr0
        go_wp2
        go_roundw
        case rel => exact ⟨j + 1, by omega, by go_num, hid (by rw [HR.out]; exact ⟨HR0.out, H3.out⟩)⟩
        case measure => simp [intOf]; omega
      · have hrb : (r.1 == 0) = false := beq_eq_false_iff_ne.2 hr0
        have HR0 : Hid (r.1 ≠ 0) := hr0
        clear hr0
        have HE : Hid (chkAll (fun i x => chk (kid i) (d + 1) x) (m + 1) c = r) := by
          have := chkAll_stay (f := fun i x => chk (kid i) (d + 1) x) (m := m + 1) (k := j + 1) (by rw [HR.out]; exact HR0.out) c (by omega)
          exact hid (this.trans HR.out)
        go_wp2
        go_ret
        rw [E1.out, HE.out]
        exact ⟨rfl, H3.out⟩
    · obtain rfl : j = c := by omega
      go_wp2
      go_ret
      rw [E1.out]
      exact ⟨ret_int HJ.out.1.symm, HJ.out.2⟩

theorem check_any (t : Fml) (a : Option Addr) (cap : Nat) (w : World) (hk : kcAt w) (hK : Kds w t a) (hc : t.cnt ≤ 9223372036854775807) :
    Calls Tryz.prog 61 #[.agg #[.int .i64 t.kind, .int .i64 t.num, .slice a t.cnt cap]] w fun e w' => e = .returned (.int .i64 (chk t 1 0).1) ∧ Below w.heap.size w w' := by
  obtain ⟨u, hu⟩ : ∃ x, x = (w.alloc (.cells #[.int .i64 t.kind, .int .i64 t.num, .slice a t.cnt cap] 24)).alloc (.cells #[.int .i64 0] 3) := ⟨_, rfl⟩
  have HB : Hid (Below w.heap.size w u) := by rw [hu]; exact hid ((box_below w _).alloc (by simp) _)
  have C : Hid (Calls Tryz.prog 92 #[.agg #[.int .i64 t.kind, .int .i64 t.num, .slice a t.cnt cap], .int .i64 1, .pointer (some ⟨w.heap.size + 1, 0, none⟩)] u fun e w' => e = .returned (.int .i64 (chk t 1 0).1) ∧ Cnt w' (w.heap.size + 1) (chk t 1 0).2 ∧ But (w.heap.size + 1) u w') :=
    checkFrom_any w hk t a cap 1 0 (w.heap.size + 1) u hK hc HB.out (by omega) (by rw [hu]; unfold Cnt; rw [show w.heap.size + 1 = (w.alloc (.cells #[.int .i64 t.kind, .int .i64 t.num, .slice a t.cnt cap] 24)).heap.size by simp]; exact Go.Deep.blk_alloc_new _ _) (by omega) (by omega)
  have HU := hid hu
  clear hu hK hk hc
  go_enter Tryz.func61, Tryz.ntmps61
  go_wp2_with fail
  rw [← HU.out]
  refine C.out.mono ?_
  rintro e w3 ⟨rfl, _, hb⟩
  have H3 : Hid (Below w.heap.size w w3) := HB.out.trans (hb.below (by omega) HB.out.size)
  clear hb C
  go_wp2
  go_ret
  exact ⟨rfl, H3.out⟩

end Go.Proofs.YtmdpbaobihdgkaaGreatDoor
