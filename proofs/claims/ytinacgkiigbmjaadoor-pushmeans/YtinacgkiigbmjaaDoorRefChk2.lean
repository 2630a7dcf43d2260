/- The document's look at a formula, from its nodes on. -/
import Derived.Test.YtinacgkiigbmjaaDoorRefChk
import Derived.Deep.CutRange
namespace Go.Proofs.YtinacgkiigbmjaaDoor
open Go.RowKit

theorem fit_zero {t : Fml} (h : (t.cnt : Int) = ar t.kind) (h0 : t.num = 0) : fit t = true := by
  by_cases h3 : t.kind = 3
  · rw [fit_atom h h3, h0]; rfl
  · rw [fit_other h h3, h0]; rfl

set_option maxHeartbeats 4000000 in
set_option maxRecDepth 100000 in
theorem look_any (w0 : World) : ∀ (t : Fml) (a : Option Addr) (cap d m nb lb : Nat) (w : World), Kds w0 t a → t.cnt ≤ 9223372036854775807 → Below w0.heap.size w0 w → w0.heap.size ≤ nb → lb ≠ nb → Cnt w nb m → m ≤ 60 → d ≤ 21 →
    w.cell? ⟨lb, 0, none⟩ = some (.func (.func 24) #[] #[.pointer (some ⟨nb, 0, none⟩), .pointer (some ⟨lb, 0, none⟩)]) →
    Calls Tryd.prog 24 #[.agg #[.int .i64 t.kind, .int .i64 t.num, .slice a t.cnt cap], .int .i64 d, .pointer (some ⟨nb, 0, none⟩), .pointer (some ⟨lb, 0, none⟩)] w
      fun e w' => e = .returned (.int .i64 (chk t d m).1) ∧ Cnt w' nb (chk t d m).2 ∧ But nb w w' := by
  intro t
  induction t using Fml.ind with
  | h t ih =>
  intro a cap d m nb lb w hK hc hB hnb hlb hC hm hd hfn
  obtain ⟨b, o, ha, hkid⟩ := hK.out
  have E0 := chk_eq t d m
  generalize hkk : t.kind = k at *
  generalize hnn : t.num = n at *
  generalize hcc : t.cnt = c at *
  generalize hkd : t.kid = kid at *
  have X : Hid ((¬ ((c : Int) = ar k) → fit t = false) ∧ ((c : Int) = ar k → k = 3 → fit t = decide (0 ≤ n ∧ n ≤ 63)) ∧ ((c : Int) = ar k → k ≠ 3 → fit t = decide (n = 0)) ∧ ((c : Int) = ar k → n = 0 → fit t = true)) := by
    subst hkk hnn hcc
    exact ⟨fit_no_cnt, fit_atom, fit_other, fit_zero⟩
  have E : Hid (chk t d m = if 60 < m + 1 then (2, m + 1) else if 20 < d then (5, m + 1) else if fit t = false then (1, m + 1) else chkAll (fun i x => chk (kid i) (d + 1) x) (m + 1) c) := E0
  clear E0 hkk hnn hcc hkd
  have HK : Hid (lb ≠ nb ∧ Below w0.heap.size w0 w ∧ w0.heap.size ≤ nb) := ⟨hlb, hB, hnb⟩
  have HKid : Hid (∀ i, i < c → ∃ ai ci,
      w0.cell? ⟨b, o + i * 3, none⟩ = some (.int .i64 (kid i).kind) ∧ w0.cell? ⟨b, o + i * 3 + 1, none⟩ = some (.int .i64 (kid i).num) ∧
      w0.cell? ⟨b, o + i * 3 + 2, none⟩ = some (.slice ai (kid i).cnt ci) ∧ (kid i).cnt ≤ 9223372036854775807 ∧ Kds w0 (kid i) ai) := hkid
  have HA : Hid (0 < c → a = some ⟨b, o, none⟩) := ha
  have HC : Hid (Cnt w nb m) := hC
  have HF : Hid (w.cell? ⟨lb, 0, none⟩ = some (.func (.func 24) #[] #[.pointer (some ⟨nb, 0, none⟩), .pointer (some ⟨lb, 0, none⟩)])) := hfn
  have HIH := hid ih
  have hcell := hC.cell
  have hfz := hC.frozen
  have hlt := hC.lt
  clear hkid ha hK hC ih hB hnb hlb hfn
  show Calls Tryd.prog 24 #[.agg #[.int .i64 k, .int .i64 n, .slice a c cap], .int .i64 d, .pointer (some ⟨nb, 0, none⟩), .pointer (some ⟨lb, 0, none⟩)] w
      fun e w' => e = .returned (.int .i64 (chk t d m).1) ∧ Cnt w' nb (chk t d m).2 ∧ But nb w w'
  have H2 : Hid (Cnt ((w.setCell ⟨nb, 0, none⟩ (.int .i64 ((m : Int) + 1))).alloc (.cells #[.int .i64 k, .int .i64 n, .slice a c cap] 24)) nb ((m : Int) + 1) ∧ But nb w ((w.setCell ⟨nb, 0, none⟩ (.int .i64 ((m : Int) + 1))).alloc (.cells #[.int .i64 k, .int .i64 n, .slice a c cap] 24))) :=
    ⟨(HC.out.set _).alloc _, (But.refl _ _).setCell 0 _ |>.alloc _⟩
  by_cases h1 : 60 < m + 1
  · have E1 : Hid (chk t d m = (2, m + 1)) := E.out.trans (if_pos h1)
    rw [E1.out]
    clear E
    go_enter Tryd.func24, Tryd.ntmps24
    go_wp2
    go_ret
    exact ⟨rfl, H2.out⟩
  have hm1 : m + 1 ≤ 60 := by omega
  by_cases h2 : 20 < d
  · have E1 : Hid (chk t d m = (5, m + 1)) := E.out.trans ((if_neg h1).trans (if_pos h2))
    rw [E1.out]
    clear E
    go_enter Tryd.func24, Tryd.ntmps24
    go_wp2
    go_ret
    exact ⟨rfl, H2.out⟩
  have E0 : Hid (chk t d m = if fit t = false then (1, m + 1) else chkAll (fun i x => chk (kid i) (d + 1) x) (m + 1) c) := E.out.trans ((if_neg h1).trans (if_neg h2))
  clear E
  obtain ⟨w1, hw1⟩ : ∃ x, x = (w.setCell ⟨nb, 0, none⟩ (.int .i64 ((m : Int) + 1))).alloc (.cells #[.int .i64 k, .int .i64 n, .slice a c cap] 24) := ⟨_, rfl⟩
  have HW1 : Hid (w1 = (w.setCell ⟨nb, 0, none⟩ (.int .i64 ((m : Int) + 1))).alloc (.cells #[.int .i64 k, .int .i64 n, .slice a c cap] 24)) := hw1
  have H1 : Hid (Cnt w1 nb ((m : Int) + 1) ∧ But nb w w1) := by rw [hid HW1.out]; exact H2.out
  have HBx : Hid (w1.cell? ⟨w.heap.size, 0, none⟩ = some (.int .i64 k) ∧ w1.cell? ⟨w.heap.size, 1, none⟩ = some (.int .i64 n) ∧ w1.cell? ⟨w.heap.size, 2, none⟩ = some (.slice a c cap)) := by
    have e : (w.setCell ⟨nb, 0, none⟩ (.int .i64 ((m : Int) + 1))).heap.size = w.heap.size := by simp [World.setCell]
    have h0 := cell_of_alloc (w := w.setCell ⟨nb, 0, none⟩ (.int .i64 ((m : Int) + 1))) (c := #[.int .i64 k, .int .i64 n, .slice a c cap]) (t := 24) (i := 0) rfl
    have h1 := cell_of_alloc (w := w.setCell ⟨nb, 0, none⟩ (.int .i64 ((m : Int) + 1))) (c := #[.int .i64 k, .int .i64 n, .slice a c cap]) (t := 24) (i := 1) rfl
    have h2 := cell_of_alloc (w := w.setCell ⟨nb, 0, none⟩ (.int .i64 ((m : Int) + 1))) (c := #[.int .i64 k, .int .i64 n, .slice a c cap]) (t := 24) (i := 2) rfl
    rw [e] at h0 h1 h2
    rw [hid HW1.out]
    exact ⟨h0, h1, h2⟩
  have C : Hid (∀ u, Calls Tryd.prog 25 #[.int .i64 k] u fun e w' => e = .returned (.int .i64 (ar k)) ∧ w' = u) := fun u => ltlKids_any k u
  clear H2 hw1
  have hd20 : d ≤ 20 := by omega
  have hbn : w.heap.size ≠ nb := by omega
  obtain ⟨x0, x1, x2⟩ := HBx.out
  obtain ⟨r, hr⟩ : ∃ x, x = ar k := ⟨_, rfl⟩
  rw [← hr] at C
  have HR : Hid (r = ar k) := hr
  clear hr
  go_enter Tryd.func24, Tryd.ntmps24
  go_upto_region 6 with fail
  rw [← HW1.out]
  go_cut [41] from 15 to 41 (fun v wc => v = .bool (!fit t) ∧ ∃ q, wc = w1.drewN q)
  case first =>
    by_cases h3 : (c : Int) = r
    · have h3b : ((c : Int) == r) = true := beq_iff_eq.2 h3
      have h3c : ((c : Int) != r) = false := by simp [h3]
      have h3' : (c : Int) = ar k := h3.trans HR.out
      have H3 : Hid ((c : Int) = ar k) := h3'
      clear h3 h3'
      by_cases h4 : n < 0
      · have EF : Hid (fit t = false) := by
          show fit t = false
          by_cases h5 : k = 3
          · rw [X.out.2.1 H3.out h5]; exact decide_eq_false (fun hh => by omega)
          · rw [X.out.2.2.1 H3.out h5]; exact decide_eq_false (by show ¬ n = 0; omega)
        have d4 : decide (n < 0) = true := decide_eq_true h4
        go_quiet (first | (go_at_call 25; exact Calls.quiet_of_same (C.out _)))
        go_wp2_with fail
        go_meet
        exact ⟨by rw [EF.out]; rfl, _, rfl⟩
      by_cases h5 : 63 < n
      · have EF : Hid (fit t = false) := by
          show fit t = false
          by_cases h6 : k = 3
          · rw [X.out.2.1 H3.out h6]; exact decide_eq_false (fun hh => by omega)
          · rw [X.out.2.2.1 H3.out h6]; exact decide_eq_false (by show ¬ n = 0; omega)
        have d4 : decide (n < 0) = false := decide_eq_false h4
        have d5 : decide (63 < n) = true := decide_eq_true h5
        go_quiet (first | (go_at_call 25; exact Calls.quiet_of_same (C.out _)))
        go_wp2_with fail
        go_meet
        exact ⟨by rw [EF.out]; rfl, _, rfl⟩
      have d4 : decide (n < 0) = false := decide_eq_false h4
      have d5 : decide (63 < n) = false := decide_eq_false h5
      by_cases h6 : n = 0
      · have EF : Hid (fit t = true) := X.out.2.2.2 H3.out h6
        have b6 : (n == 0) = true := beq_iff_eq.2 h6
        have c6 : (n != 0) = false := by simp [h6]
        clear h6
        go_quiet (first | (go_at_call 25; exact Calls.quiet_of_same (C.out _)))
        go_wp2_with fail
        go_meet
        exact ⟨by rw [EF.out]; rfl, _, rfl⟩
      have b6 : (n == 0) = false := beq_eq_false_iff_ne.2 h6
      have c6 : (n != 0) = true := by simp [h6]
      by_cases h7 : k = 3
      · have EF : Hid (fit t = true) := by rw [X.out.2.1 H3.out h7]; exact decide_eq_true ⟨by show 0 ≤ n; omega, by show n ≤ 63; omega⟩
        have b7 : (k == 3) = true := beq_iff_eq.2 h7
        have c7 : (k != 3) = false := by simp [h7]
        clear h6 h7
        go_quiet (first | (go_at_call 25; exact Calls.quiet_of_same (C.out _)))
        go_wp2_with fail
        go_meet
        exact ⟨by rw [EF.out]; rfl, _, rfl⟩
      · have EF : Hid (fit t = false) := by rw [X.out.2.2.1 H3.out h7]; exact decide_eq_false h6
        have b7 : (k == 3) = false := beq_eq_false_iff_ne.2 h7
        have c7 : (k != 3) = true := by simp [h7]
        clear h6 h7
        go_quiet (first | (go_at_call 25; exact Calls.quiet_of_same (C.out _)))
        go_wp2_with fail
        go_meet
        exact ⟨by rw [EF.out]; rfl, _, rfl⟩
    · have EF : Hid (fit t = false) := X.out.1 (fun hh => h3 (hh.trans HR.out.symm))
      have h3b : ((c : Int) == r) = false := beq_eq_false_iff_ne.2 h3
      have h3c : ((c : Int) != r) = true := by simp [h3]
      clear h3
      go_quiet (first | (go_at_call 25; exact Calls.quiet_of_same (C.out _)))
      go_wp2_with fail
      go_meet
      exact ⟨by rw [EF.out]; rfl, _, rfl⟩
  obtain ⟨rfl, q, hwc⟩ := hcut
  have HWc : Hid (Cnt wc nb ((m : Int) + 1) ∧ But nb w wc) := by rw [hwc]; exact ⟨H1.out.1, H1.out.2.drewN q⟩
  have HXc : Hid (wc.cell? ⟨w.heap.size, 2, none⟩ = some (.slice a c cap)) := by rw [hwc]; exact x2
  clear x0 x1 x2 HBx H1 HW1 C HR hwc r
  obtain ⟨w2, ew2⟩ : ∃ x, x = wc := ⟨_, rfl⟩
  rw [← ew2] at HWc HXc ⊢
  clear ew2
  obtain ⟨bd, hbd⟩ : ∃ x, x = !fit t := ⟨_, rfl⟩
  rw [← hbd]
  have hfi : fit t = !bd := by rw [hbd]; simp
  rw [hfi] at E0
  clear hfi hbd
  cases bd
  case true =>
    have E1 : Hid (chk t d m = (1, m + 1)) := E0.out.trans (if_pos rfl)
    clear E0
    go_wp2
    go_ret
    rw [E1.out]
    exact ⟨rfl, HWc.out⟩
  have E1 : Hid (chk t d m = chkAll (fun i x => chk (kid i) (d + 1) x) (m + 1) c) := E0.out.trans (if_neg (by decide))
  clear E0
  have HS : Hid (∀ j, (chkAll (fun i x => chk (kid i) (d + 1) x) (m + 1) j).2 ≤ 61 ∧ ((chkAll (fun i x => chk (kid i) (d + 1) x) (m + 1) j).1 = 0 → (chkAll (fun i x => chk (kid i) (d + 1) x) (m + 1) j).2 ≤ 60)) := fun j => chkAll_small hm1 j (fun i _ x hx => chk_small (kid i) (d + 1) x hx)
  go_wp2
  go_loopw [7] (fun i wr => ∃ j : Nat, j ≤ c ∧ i = .int .i64 j ∧ Hid ((chkAll (fun i x => chk (kid i) (d + 1) x) (m + 1) j).1 = 0 ∧ Cnt wr nb (chkAll (fun i x => chk (kid i) (d + 1) x) (m + 1) j).2 ∧ But nb w wr ∧ wr.cell? ⟨w.heap.size, 2, none⟩ = some (.slice a c cap))) (fun i _ => c - (intOf i).toNat)
  case atStart => exact ⟨0, Nat.zero_le _, rfl, hid ⟨rfl, HWc.out.1, HWc.out.2, HXc.out⟩⟩
  case round =>
    obtain ⟨j, hj, rfl, HJ⟩ := hrel
    have hx2 := HJ.out.2.2.2
    by_cases hlt2 : j < c
    · obtain rfl := HA.out (by omega)
      obtain ⟨ai, ci, e1, e2, e3, e4, e5⟩ := HKid.out j hlt2
      have HB1 : Hid (Below w0.heap.size w0 wr) := HK.out.2.1.trans (HJ.out.2.2.1.below HK.out.2.2 HK.out.2.1.size)
      have f1 := below_cell HB1.out (Nat.le_refl _) e1
      have f2 := below_cell HB1.out (Nat.le_refl _) e2
      have f3 := below_cell HB1.out (Nat.le_refl _) e3
      have hbn2 : b ≠ nb := by
        have h1 := World.block_lt_of_cell? _ _ e1
        have h2 := HK.out.2.2
        have h3 : b < w0.heap.size := h1
        omega
      have hl := HJ.out.2.2.1.cell (p := ⟨lb, 0, none⟩) HK.out.1 HF.out
      have hjz : (j : Int) < c := by omega
      have hj0 : (0 : Int) ≤ j := by omega
      have hwr : IntKind.i64.wrap ((d : Int) + 1) = (d : Int) + 1 := by rw [IntKind.wrap_i64] <;> omega
      obtain ⟨m2, hm2⟩ : ∃ x, x = (chkAll (fun i x => chk (kid i) (d + 1) x) (m + 1) j).2 := ⟨_, rfl⟩
      have HM2 : Hid (m2 = (chkAll (fun i x => chk (kid i) (d + 1) x) (m + 1) j).2 ∧ m2 ≤ 60) := ⟨hm2, hm2 ▸ (HS.out j).2 HJ.out.1⟩
      have HR : Hid (chkAll (fun i x => chk (kid i) (d + 1) x) (m + 1) (j + 1) = chk (kid j) (d + 1) m2) := by
        show chkAll (fun i x => chk (kid i) (d + 1) x) (m + 1) (j + 1) = chk (kid j) (d + 1) m2
        rw [chkAll, if_pos HJ.out.1, ← hm2]
      clear hm2
      have C2 : Hid (∀ u : World, u.heap = wr.heap → (u.os = wr.os ∧ u.tape = wr.tape ∧ u.output = wr.output) → Calls Tryd.prog 24 #[.agg #[.int .i64 (kid j).kind, .int .i64 (kid j).num, .slice ai (kid j).cnt ci], .int .i64 ((d : Int) + 1), .pointer (some ⟨nb, 0, none⟩), .pointer (some ⟨lb, 0, none⟩)] u
          fun e w' => e = .returned (.int .i64 (chk (kid j) (d + 1) m2).1) ∧ Cnt w' nb (chk (kid j) (d + 1) m2).2 ∧ But nb wr w') := fun u hu ho => by
        have hcn : Cnt u nb m2 := by unfold Cnt; rw [hu, HM2.out.1]; exact HJ.out.2.1
        have hlu : u.cell? ⟨lb, 0, none⟩ = some (.func (.func 24) #[] #[.pointer (some ⟨nb, 0, none⟩), .pointer (some ⟨lb, 0, none⟩)]) := by rw [World.cell?_of_block (w := wr) (by rw [hu])]; exact hl
        exact (HIH.out j hlt2 ai ci (d + 1) m2 nb lb u e5 e4 (below_of_heap HB1.out hu.symm ho.1.symm ho.2.1.symm ho.2.2.symm) HK.out.2.2 HK.out.1 hcn HM2.out.2 (by omega) hlu).mono fun e w' hh => ⟨hh.1, hh.2.1, hh.2.2.of_heap hu ho.1 ho.2.1 ho.2.2⟩
      obtain ⟨r, hr⟩ : ∃ x, x = chk (kid j) (d + 1) m2 := ⟨_, rfl⟩
      rw [← hr] at C2 HR
      obtain ⟨kk, hkk⟩ : ∃ x, x = kid j := ⟨_, rfl⟩
      rw [← hkk] at f1 f2 f3 C2
      clear hr hkk e1 e2 e3 e4 e5
      go_wp2
      go_region_held3 (fun z => z.cell? ⟨lb, 0, none⟩ = some (.func (.func 24) #[] #[.pointer (some ⟨nb, 0, none⟩), .pointer (some ⟨lb, 0, none⟩)]) ∧ z.cell? ⟨w.heap.size, 2, none⟩ = some (.slice (some ⟨b, o, none⟩) c cap) ∧ z.cell? ⟨b, o + j * 3, none⟩ = some (.int .i64 kk.kind) ∧ z.cell? ⟨b, o + j * 3 + 1, none⟩ = some (.int .i64 kk.num) ∧ z.cell? ⟨b, o + j * 3 + 2, none⟩ = some (.slice ai kk.cnt ci)) (first | go_keep)
        (first | (go_at_call 24; refine (C2.out _ ?_ ?_).mono ?_; (exact rfl); (exact ⟨rfl, rfl, rfl⟩); rintro e w3 ⟨rfl, hc3, hb3⟩; have g0 := hb3.cell (p := ⟨lb, 0, none⟩) HK.out.1 hl; have g1 := hb3.cell (p := ⟨w.heap.size, 2, none⟩) hbn hx2; have g2 := hb3.cell (p := ⟨b, o + j * 3, none⟩) hbn2 f1; have g3 := hb3.cell (p := ⟨b, o + j * 3 + 1, none⟩) hbn2 f2; have g4 := hb3.cell (p := ⟨b, o + j * 3 + 2, none⟩) hbn2 f3) | fail)
      have H3 : Hid (Cnt w3 nb r.2 ∧ But nb w w3 ∧ w3.cell? ⟨w.heap.size, 2, none⟩ = some (.slice (some ⟨b, o, none⟩) c cap)) := ⟨hc3, HJ.out.2.2.1.trans hb3, g1⟩
      clear hc3 hb3 C2 g0 g2 g3 g4
      by_cases hr0 : r.1 = 0
      · have hrb : (r.1 == 0) = true := beq_iff_eq.2 hr0
        have HR0 : Hid (r.1 = 0) := hr0
        clear hr0
        go_wp2
        go_roundw
        case rel => exact ⟨j + 1, by omega, by go_num, hid (by rw [HR.out]; exact ⟨HR0.out, H3.out⟩)⟩
        case measure => simp [intOf]; omega
      · have hrb : (r.1 == 0) = false := beq_eq_false_iff_ne.2 hr0
        have HR0 : Hid (r.1 ≠ 0) := hr0
        clear hr0
        have HE : Hid (chkAll (fun i x => chk (kid i) (d + 1) x) (m + 1) c = r) := by
          have := chkAll_stay (f := fun i x => chk (kid i) (d + 1) x) (m := m + 1) (k := j + 1) (by rw [HR.out]; exact HR0.out) c (by omega)
          exact hid (this.trans HR.out)
        go_wp2
        go_ret
        rw [E1.out, HE.out]
        exact ⟨rfl, H3.out.1, H3.out.2.1⟩
    · obtain rfl : j = c := by omega
      go_wp2
      go_ret
      rw [E1.out]
      exact ⟨ret_int HJ.out.1.symm, HJ.out.2.1, HJ.out.2.2.1⟩

theorem run_store_new (u : World) (F old : Value) (t : TypeId) (n : Nat) (hn : n = u.heap.size) (hF : F.oneCell' = true) : (store ⟨n, 0, none⟩ F).run Tryd.prog (u.alloc (.cells #[old] t)) = .ok () (u.alloc (.cells #[F] t)) := by
  subst hn
  have e : (u.alloc (.cells #[old] t)).heap[u.heap.size]? = some (.cells #[old] t) := Go.Deep.blk_alloc_new _ _
  have h1 : (u.alloc (.cells #[old] t)).cell? ⟨u.heap.size, 0, none⟩ = some old := cell_of_cells e rfl
  have h2 : (u.alloc (.cells #[old] t)).frozen? ⟨u.heap.size, 0, none⟩ = false := by
    unfold World.frozen?
    rw [e]
    rfl
  rw [run_store _ _ _ _ _ hF, h1]
  simp only [h2]
  rw [World.setCell_alloc_at _ _ _ _ _ rfl]
  rfl

theorem ltl_any (t : Fml) (a : Option Addr) (cap : Nat) (w : World) (hK : Kds w t a) (hc : t.cnt ≤ 9223372036854775807) :
    Calls Tryd.prog 7 #[.agg #[.int .i64 t.kind, .int .i64 t.num, .slice a t.cnt cap]] w fun e w' => e = .returned (.int .i64 (chk t 1 0).1) ∧ Below w.heap.size w w' := by
  obtain ⟨F, hF⟩ : ∃ x, x = Value.func (.func 24) #[] #[.pointer (some ⟨w.heap.size + 1, 0, none⟩), .pointer (some ⟨w.heap.size + 1 + 1, 0, none⟩)] := ⟨_, rfl⟩
  obtain ⟨u1, hu1⟩ : ∃ x, x = (w.alloc (.cells #[.int .i64 t.kind, .int .i64 t.num, .slice a t.cnt cap] 24)).alloc (.cells #[.int .i64 0] 3) := ⟨_, rfl⟩
  have hs1 : u1.heap.size = w.heap.size + 1 + 1 := by rw [hu1]; simp
  have HB1 : Hid (Below w.heap.size w u1) := by rw [hu1]; exact hid ((box_below w _).alloc (by simp) _)
  have hc1 : Cnt u1 (w.heap.size + 1) 0 := by rw [hu1]; unfold Cnt; rw [show w.heap.size + 1 = (w.alloc (.cells #[.int .i64 t.kind, .int .i64 t.num, .slice a t.cnt cap] 24)).heap.size by simp]; exact Go.Deep.blk_alloc_new _ _
  obtain ⟨u, hu⟩ : ∃ x, x = u1.alloc (.cells #[F] 45) := ⟨_, rfl⟩
  have HB : Hid (Below w.heap.size w u) := by rw [hu]; exact HB1.out.alloc HB1.out.size _
  have hfn : u.cell? ⟨w.heap.size + 1 + 1, 0, none⟩ = some (.func (.func 24) #[] #[.pointer (some ⟨w.heap.size + 1, 0, none⟩), .pointer (some ⟨w.heap.size + 1 + 1, 0, none⟩)]) := by
    rw [hu, ← hs1]
    have := cell_of_alloc (w := u1) (c := #[F]) (t := 45) (i := 0) rfl
    rw [this, hF, hs1]
    rfl
  have C : Hid (Calls Tryd.prog 24 #[.agg #[.int .i64 t.kind, .int .i64 t.num, .slice a t.cnt cap], .int .i64 1, .pointer (some ⟨w.heap.size + 1, 0, none⟩), .pointer (some ⟨w.heap.size + 1 + 1, 0, none⟩)] u fun e w' => e = .returned (.int .i64 (chk t 1 0).1) ∧ Cnt w' (w.heap.size + 1) (chk t 1 0).2 ∧ But (w.heap.size + 1) u w') :=
    look_any w t a cap 1 0 (w.heap.size + 1) (w.heap.size + 1 + 1) u hK hc HB.out (by omega) (by omega) (by rw [hu]; exact hc1.alloc _) (by omega) (by omega) hfn
  have HU : Hid (((w.alloc (.cells #[.int .i64 t.kind, .int .i64 t.num, .slice a t.cnt cap] 24)).alloc (.cells #[.int .i64 0] 3)).alloc (.cells #[Value.func (.func 24) #[] #[.pointer (some ⟨w.heap.size + 1, 0, none⟩), .pointer (some ⟨w.heap.size + 1 + 1, 0, none⟩)]] 45) = u) := by rw [hu, hu1, hF]; exact hid rfl
  clear hu hu1 hF hK hc hfn hs1 HB1 hc1
  go_enter Tryd.func7, Tryd.ntmps7
  go_wp2_with fail
  rw [run_store_new _ _ _ _ _ (by simp) rfl]
  go_wp2_with fail
  rw [HU.out]
  refine C.out.mono ?_
  rintro e w3 ⟨rfl, _, hb⟩
  have H3 : Hid (Below w.heap.size w w3) := HB.out.trans (hb.below (by omega) HB.out.size)
  clear hb C
  go_wp2
  go_ret
  exact ⟨rfl, H3.out⟩

end Go.Proofs.YtinacgkiigbmjaaDoor
