/- holds: where a formula holds, at each place of a row of letters. -/
import Derived.Test.YtmdpbaobihdgkaaGreatDoorNowJ
namespace Go.Proofs.YtmdpbaobihdgkaaGreatDoor
open Go.RowKit

set_option maxHeartbeats 8000000 in
theorem holds_aux (la : Option Addr) (s m n lc : Nat) (S L : Nat → Int) (R : Fml → Nat → Bool) (HN : Hid (n = s + m)) (HR : Hid (R = hb n (atm s m S L))) (hn60 : n ≤ 60) (hsn : s < n) (hu64 : ∀ i, 0 ≤ ltr s m S L i ∧ ltr s m S L i < 18446744073709551616) :
    ∀ (t : Fml) (a : Option Addr) (cap : Nat) (w : World), Kds w t a → Wf t → RowU w la n (ltr s m S L) →
    Calls Tryz.prog 63 #[.agg #[.slice la n lc, .int .i64 s], .agg #[.int .i64 t.kind, .int .i64 t.num, .slice a t.cnt cap]] w fun e w' => NewB w n (R t) e w' := by
  intro t
  induction t using Fml.ind with
  | h t ih =>
  intro a cap w hK hW hZ
  obtain ⟨b, o, ha, hkid⟩ := hK.out
  obtain ⟨hfit, hWk⟩ := hW.out
  obtain ⟨hkr1, hkr2, har⟩ := fit_kind hfit
  have hx3 := (fit_parts hfit).2
  have HP : Hid (∀ p, R t p = hbF n (atm s m S L) t (t.reds (fun _ => false) (hbF n (atm s m S L))) p) := fun p => by rw [HR.out]; exact hb_eq _ _ t p
  have HKK : Hid (∀ i, i < t.cnt → t.reds (fun _ => false) (hbF n (atm s m S L)) i = R (t.kid i)) := fun i hi => by rw [HR.out]; exact hb_kid hi
  have HPer : Hid (∀ i, Per s m (R (t.kid i))) := fun i => by rw [HR.out, HN.out]; exact hb_per (by have := HN.out; omega) (atm_per s m S L) _
  have hc2 : t.cnt ≤ 2 := by
    have : ar t.kind ≤ 2 := by unfold ar; split; omega; split; omega; split <;> omega
    omega
  generalize hrr : t.reds (fun _ => false) (hbF n (atm s m S L)) = rr at *
  unfold hbF at HP
  generalize hkk : t.kind = k at *
  generalize hnn : t.num = x at *
  generalize hcc : t.cnt = c at *
  generalize hkd : t.kid = kid at *
  have HX3 := hid hx3
  have HAR := hid har
  have HKid := hid hkid
  have HA := hid ha
  have HIH := hid ih
  have HWk := hid hWk
  have HZ := hid hZ
  have HU := hid hu64
  clear hkk hnn hcc hkd hrr hx3 har hkid ha ih hWk hZ hu64 hK hW hfit
  have hmk := run_make_row' (P := Tryz.prog) 100 44 (.slice none 0 0) 24 Tryz.underlying100 Tryz.info44 rfl .i64 .i64 c (by omega) (by omega)
  obtain ⟨u, hu⟩ : ∃ y, y = (((w.alloc (.cells #[.slice la n lc, .int .i64 s] 106)).alloc (.cells #[.int .i64 k, .int .i64 x, .slice a c cap] 24)).alloc (.cells (madeCells #[.slice none 0 0] c) 44)).alloc (.cells #[.slice (some ⟨w.heap.size + 1 + 1, 0, none⟩) c c] 100) := ⟨_, rfl⟩
  have HS : Hid (Below w.heap.size w u ∧ Hx u w.heap.size la n lc s k x a c cap ∧ Kp u (w.heap.size + 1 + 1) c 0 n (fun i => R (kid i))) := by
    obtain ⟨b1, b2, b3⟩ := three_boxes w #[.slice la n lc, .int .i64 s] #[.int .i64 k, .int .i64 x, .slice a c cap] (madeCells #[.slice none 0 0] c) 106 24 44
    have hb3 := below_alloc3 w (.cells #[.slice la n lc, .int .i64 s] 106) (.cells #[.int .i64 k, .int .i64 x, .slice a c cap] 24) (.cells (madeCells #[.slice none 0 0] c) 44)
    have hr3 := World.rowIs_made ((w.alloc (.cells #[.slice la n lc, .int .i64 s] 106)).alloc (.cells #[.int .i64 k, .int .i64 x, .slice a c cap] 24)) (.slice none 0 0) c 44
    generalize hv : ((w.alloc (.cells #[.slice la n lc, .int .i64 s] 106)).alloc (.cells #[.int .i64 k, .int .i64 x, .slice a c cap] 24)).alloc (.cells (madeCells #[.slice none 0 0] c) 44) = v at *
    have hvs : v.heap.size = w.heap.size + 1 + 1 + 1 := by rw [← hv]; simp
    have hvu : Below v.heap.size v u := by rw [hu]; exact box_below _ _
    have hrv : v.rowIs (w.heap.size + 1 + 1) 44 c (fun _ => .slice none 0 0) := by simpa using hr3
    refine ⟨hb3.trans (hvu.mono (by omega)), ⟨?_, ?_, ?_, ?_, ?_, ?_⟩, ⟨fun _ => 0, (rowIs_below hrv hvu).congr (fun i _ => by rw [if_neg (by omega)]), fun i hi => by omega⟩⟩
    · exact below_cell hvu (Nat.le_refl _) (cell_of_cells b1 rfl)
    · exact below_cell hvu (Nat.le_refl _) (cell_of_cells b1 rfl)
    · exact below_cell hvu (Nat.le_refl _) (cell_of_cells b2 rfl)
    · exact below_cell hvu (Nat.le_refl _) (cell_of_cells b2 rfl)
    · exact below_cell hvu (Nat.le_refl _) (cell_of_cells b2 rfl)
    · rw [← hvs, hu]
      exact cell_of_alloc rfl
  have HEU := hid hu
  clear hu
  go_enter Tryz.func63, Tryz.ntmps63
  go_wp2
  clear hmk
  rw [← HEU.out]
  clear HEU
  go_loopw [15] (fun i wr => ∃ j : Nat, j ≤ c ∧ i = .int .i64 j ∧ Hid (Below w.heap.size w wr ∧ Hx wr w.heap.size la n lc s k x a c cap ∧ Kp wr (w.heap.size + 1 + 1) c j n (fun i => R (kid i)))) (fun i _ => c - (intOf i).toNat)
  case atStart => exact ⟨0, Nat.zero_le _, rfl, HS⟩
  case round =>
    obtain ⟨j, hj, rfl, HJ⟩ := hrel
    clear HS
    by_cases hlt : j < c
    · obtain rfl := HA.out (by omega)
      obtain ⟨ai, ci, e1, e2, e3, e4, e5⟩ := HKid.out j hlt
      have f1 := below_cell HJ.out.1 (Nat.le_refl _) e1
      have f2 := below_cell HJ.out.1 (Nat.le_refl _) e2
      have f3 := below_cell HJ.out.1 (Nat.le_refl _) e3
      have hjz : (j : Int) < c := by omega
      obtain ⟨kk, hkk⟩ : ∃ y, y = kid j := ⟨_, rfl⟩
      have HKJ := hid hkk
      rw [← hkk] at f1 f2 f3
      obtain ⟨w1, hw1⟩ : ∃ y, y = wr.alloc (.cells #[.int .i64 kk.kind, .int .i64 kk.num, .slice ai kk.cnt ci] 24) := ⟨_, rfl⟩
      have hB1 : Below wr.heap.size wr w1 := by rw [hw1]; exact box_below _ _
      have hb1 : w1.heap[wr.heap.size]? = some (.cells #[.int .i64 kk.kind, .int .i64 kk.num, .slice ai kk.cnt ci] 24) := by rw [hw1]; exact Go.Deep.blk_alloc_new _ _
      have hBw : Below w.heap.size w w1 := HJ.out.1.trans (hB1.mono HJ.out.1.size)
      have H1 : Hid (Below w.heap.size w w1 ∧ Hx w1 w.heap.size la n lc s k x (some ⟨b, o, none⟩) c cap ∧ Kp w1 (w.heap.size + 1 + 1) c j n (fun i => R (kid i))) := ⟨hBw, HJ.out.2.1.below hB1, HJ.out.2.2.below hB1⟩
      have q0 : w1.cell? ⟨wr.heap.size, 0, none⟩ = some (.int .i64 kk.kind) := cell_of_cells hb1 rfl
      have q1 : w1.cell? ⟨wr.heap.size, 1, none⟩ = some (.int .i64 kk.num) := cell_of_cells hb1 rfl
      have q2 : w1.cell? ⟨wr.heap.size, 2, none⟩ = some (.slice ai kk.cnt ci) := cell_of_cells hb1 rfl
      have q3 := H1.out.2.1.r0
      have q4 := H1.out.2.1.r1
      have q5 := H1.out.2.1.kv
      have C : Hid (∀ z : World, Below w.heap.size w z → Calls Tryz.prog 63 #[.agg #[.slice la n lc, .int .i64 s], .agg #[.int .i64 kk.kind, .int .i64 kk.num, .slice ai kk.cnt ci]] z fun e w' => NewB z n (R kk) e w') := fun z hz => by
        have := HIH.out j hlt ai ci z (e5.below hz) (HWk.out j hlt) (HZ.out.below hz)
        rw [← hkk] at this
        exact this
      have HE1 := hid hw1
      have hn1 : wr.heap.size ≠ w.heap.size + 1 + 1 := by
        obtain ⟨V, hV, _⟩ := HJ.out.2.2.row
        have := hV.lt
        omega
      have hn2 : w.heap.size ≠ w.heap.size + 1 + 1 := by omega
      have hld : ∃ v, w1.cell? ⟨w.heap.size + 1 + 1, j, none⟩ = some v := by
        obtain ⟨V, hV, _⟩ := H1.out.2.2.row
        exact ⟨_, hV.cell hlt⟩
      have hfr : w1.frozen? ⟨w.heap.size + 1 + 1, j, none⟩ = false := by
        obtain ⟨V, hV, _⟩ := H1.out.2.2.row
        exact hV.frozen j
      obtain ⟨vo, hvo⟩ := hld
      clear e1 e2 e3 e4 e5 hkk hw1 hB1 hb1 hBw HIH HWk
      go_wp2
      rw [← HE1.out]
      obtain ⟨Q2, hQ2⟩ : ∃ y, y = w.heap.size + 1 + 1 := ⟨_, rfl⟩
      have HQ2 := hid hQ2
      rw [← hQ2] at q5 hvo hfr hn1 hn2 ⊢
      clear hQ2
      go_region_held3 (fun z => z.cell? ⟨Q2 + 1, 0, none⟩ = some (.slice (some ⟨Q2, 0, none⟩) c c) ∧ z.cell? ⟨w.heap.size, 0, none⟩ = some (.slice la n lc) ∧ z.cell? ⟨w.heap.size, 1, none⟩ = some (.int .i64 s) ∧ z.cell? ⟨wr.heap.size, 0, none⟩ = some (.int .i64 kk.kind) ∧ z.cell? ⟨wr.heap.size, 1, none⟩ = some (.int .i64 kk.num) ∧ z.cell? ⟨wr.heap.size, 2, none⟩ = some (.slice ai kk.cnt ci)) (first | (exact ⟨keep_set g5 (by simp), keep_set g3 hn2, keep_set g4 hn2, keep_set g0 hn1, keep_set g1 hn1, keep_set g2 hn1⟩) | go_keep)
        (first | (go_at_call 63; refine (C.out _ ?_).mono ?_; (exact below_drewN H1.out.1 1); rintro e w3 ⟨v, rfl, hv1, hv2, hv3⟩; have hv4 := below_of_drewB hv3; have g0 := below_cell hv4 (Nat.le_refl _) q0; have g1 := below_cell hv4 (Nat.le_refl _) q1; have g2 := below_cell hv4 (Nat.le_refl _) q2; have g3 := below_cell hv4 (Nat.le_refl _) q3; have g4 := below_cell hv4 (Nat.le_refl _) q4; have g5 := below_cell hv4 (Nat.le_refl _) q5; have g6 := below_cell hv4 (Nat.le_refl _) hvo; have g7 : w3.frozen? ⟨Q2, j, none⟩ = false := hv4.frozen (p := ⟨Q2, j, none⟩) (World.block_lt_of_cell? _ _ hvo) |>.trans hfr) | fail)
      have hB3 : Below w.heap.size w w3 := H1.out.1.trans (hv4.mono H1.out.1.size)
      have hvk : w3.rowIs v 4 n (fun p => .bool (R (kid j) p)) := by rw [← HKJ.out]; exact hv2
      obtain rfl := HQ2.out
      have H3 : Hid (Below w.heap.size w (w3.setCell ⟨w.heap.size + 1 + 1, j, none⟩ (.slice (some ⟨v, 0, none⟩) n n)) ∧ Hx (w3.setCell ⟨w.heap.size + 1 + 1, j, none⟩ (.slice (some ⟨v, 0, none⟩) n n)) w.heap.size la n lc s k x (some ⟨b, o, none⟩) c cap ∧ Kp (w3.setCell ⟨w.heap.size + 1 + 1, j, none⟩ (.slice (some ⟨v, 0, none⟩) n n)) (w.heap.size + 1 + 1) c (j + 1) n (fun i => R (kid i))) :=
        ⟨hB3.setCell (by show w.heap.size ≤ w.heap.size + 1 + 1; omega) _, (H1.out.2.1.below hv4).but ((But.refl _ _).setCell j _), (H1.out.2.2.below hv4).put hvk⟩
      clear hv1 hv2 hv3 hv4 hvk hB3 H1 HJ C g0 g1 g2 g3 g4 g5 g6 g7 q0 q1 q2 q3 q4 q5 HE1 HQ2
      go_wp2
      go_roundw
      case rel => exact ⟨j + 1, by omega, by go_num, H3⟩
      case measure => simp [intOf]; omega
    · obtain rfl : c = j := by omega
      have r0 := HJ.out.2.1.r0
      have r1 := HJ.out.2.1.r1
      have y0 := HJ.out.2.1.f0
      have y1 := HJ.out.2.1.f1
      have y2 := HJ.out.2.1.f2
      have kv := HJ.out.2.1.kv
      have HB := hid HJ.out.1
      have HKb := hid HJ.out.2.2
      clear HJ HIH HKid HWk HA
      have hk : k = 1 ∨ k = 2 ∨ k = 3 ∨ k = 4 ∨ k = 5 ∨ k = 6 ∨ k = 7 ∨ k = 8 ∨ k = 9 ∨ k = 10 ∨ k = 11 := by omega
      clear hkr1 hkr2 hlt hj
      rcases hk with rfl | rfl | rfl | rfl | rfl | rfl | rfl | rfl | rfl | rfl | rfl
      · have hcn : c = 0 := by
          have h := HAR.out
          have e : ar 1 = 0 := by decide
          omega
        have HC := hid hcn
        clear hcn HAR
        have C := hid (now_k1 (w := wr) (Z := ltr s m S L) (K := fun i => R (kid i)) la n lc s x a c cap (some ⟨w.heap.size + 1 + 1, 0, none⟩) c hn60)
        clear HX3
        go_wp2_with fail
        refine C.out.mono ?_
        rintro e w2 ⟨b3, rfl, h⟩
        have H := hid h
        clear C h
        go_wp2
        go_ret
        refine (NewB.from ⟨b3, rfl, H.out⟩ HB.out).congr (fun p hp => ?_)
        show _ = R t p
        rw [HP.out p]
        simp [nowV]
      · have hcn : c = 0 := by
          have h := HAR.out
          have e : ar 2 = 0 := by decide
          omega
        have HC := hid hcn
        clear hcn HAR
        have C := hid (now_k2 (w := wr) (Z := ltr s m S L) (K := fun i => R (kid i)) la n lc s x a c cap (some ⟨w.heap.size + 1 + 1, 0, none⟩) c hn60)
        clear HX3
        go_wp2_with fail
        refine C.out.mono ?_
        rintro e w2 ⟨b3, rfl, h⟩
        have H := hid h
        clear C h
        go_wp2
        go_ret
        refine (NewB.from ⟨b3, rfl, H.out⟩ HB.out).congr (fun p hp => ?_)
        show _ = R t p
        rw [HP.out p]
        simp [nowV]
      · have hcn : c = 0 := by
          have h := HAR.out
          have e : ar 3 = 0 := by decide
          omega
        have HC := hid hcn
        clear hcn HAR
        have C := hid (now_k3 (w := wr) (Z := ltr s m S L) (K := fun i => R (kid i)) la n lc s x a c cap (some ⟨w.heap.size + 1 + 1, 0, none⟩) c hn60 (HZ.out.below HB.out) (fun i _ => HU.out i) (HX3.out rfl).1 (HX3.out rfl).2)
        clear HX3
        go_wp2_with fail
        refine C.out.mono ?_
        rintro e w2 ⟨b3, rfl, h⟩
        have H := hid h
        clear C h
        go_wp2
        go_ret
        refine (NewB.from ⟨b3, rfl, H.out⟩ HB.out).congr (fun p hp => ?_)
        show _ = R t p
        rw [HP.out p]
        simp [nowV, atm]
      · have hcn : c = 1 := by
          have h := HAR.out
          have e : ar 4 = 1 := by decide
          omega
        have HC := hid hcn
        clear hcn HAR
        have C := hid (now_k4 (w := wr) (Z := ltr s m S L) (K := fun i => R (kid i)) la n lc s x a c cap (some ⟨w.heap.size + 1 + 1, 0, none⟩) c hn60 HKb.out.kb (by have := HC.out; omega))
        clear HX3
        go_wp2_with fail
        refine C.out.mono ?_
        rintro e w2 ⟨b3, rfl, h⟩
        have H := hid h
        clear C h
        go_wp2
        go_ret
        refine (NewB.from ⟨b3, rfl, H.out⟩ HB.out).congr (fun p hp => ?_)
        show _ = R t p
        rw [HP.out p]
        rw [HKK.out 0 (by have := HC.out; omega)]
        simp [nowV]
      · have hcn : c = 2 := by
          have h := HAR.out
          have e : ar 5 = 2 := by decide
          omega
        have HC := hid hcn
        clear hcn HAR
        have C := hid (now_k5 (w := wr) (Z := ltr s m S L) (K := fun i => R (kid i)) la n lc s x a c cap (some ⟨w.heap.size + 1 + 1, 0, none⟩) c hn60 HKb.out.kb (by have := HC.out; omega))
        clear HX3
        go_wp2_with fail
        refine C.out.mono ?_
        rintro e w2 ⟨b3, rfl, h⟩
        have H := hid h
        clear C h
        go_wp2
        go_ret
        refine (NewB.from ⟨b3, rfl, H.out⟩ HB.out).congr (fun p hp => ?_)
        show _ = R t p
        rw [HP.out p]
        rw [HKK.out 0 (by have := HC.out; omega), HKK.out 1 (by have := HC.out; omega)]
        simp [nowV]
      · have hcn : c = 2 := by
          have h := HAR.out
          have e : ar 6 = 2 := by decide
          omega
        have HC := hid hcn
        clear hcn HAR
        have C := hid (now_k6 (w := wr) (Z := ltr s m S L) (K := fun i => R (kid i)) la n lc s x a c cap (some ⟨w.heap.size + 1 + 1, 0, none⟩) c hn60 HKb.out.kb (by have := HC.out; omega))
        clear HX3
        go_wp2_with fail
        refine C.out.mono ?_
        rintro e w2 ⟨b3, rfl, h⟩
        have H := hid h
        clear C h
        go_wp2
        go_ret
        refine (NewB.from ⟨b3, rfl, H.out⟩ HB.out).congr (fun p hp => ?_)
        show _ = R t p
        rw [HP.out p]
        rw [HKK.out 0 (by have := HC.out; omega), HKK.out 1 (by have := HC.out; omega)]
        simp [nowV]
      · have hcn : c = 1 := by
          have h := HAR.out
          have e : ar 7 = 1 := by decide
          omega
        have HC := hid hcn
        clear hcn HAR
        have C := hid (each47_any wr la n lc s (fun p => R (kid 0) (nx n s p)) (.pointer (some ⟨w.heap.size + 1 + 1 + 1, 0, none⟩)) (.pointer (some ⟨w.heap.size, 0, none⟩)) hn60 (fun p z hp hz =>
          next1_any (K := fun i => R (kid i)) (below_cell hz (Nat.le_refl _) kv) (HKb.out.kb.below hz) (by have := HC.out; omega) hn60 (below_cell hz (Nat.le_refl _) r0) (below_cell hz (Nat.le_refl _) r1) hsn p hp))
        clear HX3
        go_wp2_with fail
        refine C.out.mono ?_
        rintro e w2 ⟨b3, rfl, h⟩
        have H := hid h
        clear C h
        go_wp2
        go_ret
        refine (NewB.from ⟨b3, rfl, H.out⟩ HB.out).congr (fun p hp => ?_)
        show R (kid 0) (nx n s p) = R t p
        rw [HP.out p, HKK.out 0 (by have := HC.out; omega)]
        have e := hb_next (HPer.out 0) (p := p) (by have := HN.out; omega)
        rw [← HN.out] at e
        simpa [nx] using e
      · have hcn : c = 2 := by
          have h := HAR.out
          have e : ar 8 = 2 := by decide
          omega
        have HC := hid hcn
        clear hcn HAR
        obtain ⟨V, hV, hVr⟩ := HKb.out.row
        have k0 : wr.cell? ⟨w.heap.size + 1 + 1, 0, none⟩ = some (.slice (some ⟨V 0, 0, none⟩) n n) := by
          have := hV.cell (i := 0) (by have := HC.out; omega)
          rw [if_pos (by have := HC.out; omega)] at this
          exact this
        have v0 := hVr 0 (by have := HC.out; omega)
        have k1 : wr.cell? ⟨w.heap.size + 1 + 1, 1, none⟩ = some (.slice (some ⟨V 1, 0, none⟩) n n) := by
          have := hV.cell (i := 1) (by have := HC.out; omega)
          rw [if_pos (by have := HC.out; omega)] at this
          exact this
        have v1 := hVr 1 (by have := HC.out; omega)
        have hc1 : (1 : Int) < c := by have := HC.out; omega
        have hd1 : 1 < c := by have := HC.out; omega
        have hc0 : (0 : Int) < c := by have := HC.out; omega
        have hd0 : 0 < c := by have := HC.out; omega
        clear hV hVr HX3
        go_wp2
        go_region_held3 (fun z => z.cell? ⟨w.heap.size, 0, none⟩ = some (.slice la n lc) ∧ z.cell? ⟨w.heap.size, 1, none⟩ = some (.int .i64 s) ∧ z.cell? ⟨w.heap.size + 1 + 1 + 1, 0, none⟩ = some (.slice (some ⟨w.heap.size + 1 + 1, 0, none⟩) c c) ∧ z.cell? ⟨w.heap.size + 1 + 1, 0, none⟩ = some (.slice (some ⟨V 0, 0, none⟩) n n) ∧ z.cell? ⟨w.heap.size + 1 + 1, 1, none⟩ = some (.slice (some ⟨V 1, 0, none⟩) n n)) (first | go_keep)
          (first | (go_at_call 97; refine (until_any (w := _) la n lc s hn60 hsn (F := R (kid 0)) (G := R (kid 1)) ?_ ?_).mono ?_; (exact rowIs_rowB v0); (exact rowIs_rowB v1); rintro e w3 ⟨b3, rfl, h1, h2, h3⟩; have h4 := below_of_drewB h3; have gr0 := below_cell h4 (Nat.le_refl _) r0; have gr1 := below_cell h4 (Nat.le_refl _) r1; have gkv := below_cell h4 (Nat.le_refl _) kv; have gk0 := below_cell h4 (Nat.le_refl _) k0; have gk1 := below_cell h4 (Nat.le_refl _) k1) | fail)
        have H := hid (And.intro h1 (And.intro h2 h4))
        clear h1 h2 h3 h4 gr0 gr1 gkv gk0 gk1 r0 r1 y0 y1 y2 kv k0 k1
        go_wp2
        go_ret
        refine (NewB.from (w1 := wr) ⟨b3, rfl, H.out⟩ HB.out).congr (fun p hp => ?_)
        have e := bk_until (s := s) (m := m) (F := R (kid 0)) (G := R (kid 1)) (by have := HN.out; omega) (HPer.out 0) (HPer.out 1) (p := p) (by have := HN.out; omega)
        rw [← HN.out] at e
        rw [HP.out p, HKK.out 0 (by have := HC.out; omega), HKK.out 1 (by have := HC.out; omega)]
        simpa using e
      · have hcn : c = 2 := by
          have h := HAR.out
          have e : ar 9 = 2 := by decide
          omega
        have HC := hid hcn
        clear hcn HAR
        obtain ⟨V, hV, hVr⟩ := HKb.out.row
        have k0 : wr.cell? ⟨w.heap.size + 1 + 1, 0, none⟩ = some (.slice (some ⟨V 0, 0, none⟩) n n) := by
          have := hV.cell (i := 0) (by have := HC.out; omega)
          rw [if_pos (by have := HC.out; omega)] at this
          exact this
        have v0 := hVr 0 (by have := HC.out; omega)
        have k1 : wr.cell? ⟨w.heap.size + 1 + 1, 1, none⟩ = some (.slice (some ⟨V 1, 0, none⟩) n n) := by
          have := hV.cell (i := 1) (by have := HC.out; omega)
          rw [if_pos (by have := HC.out; omega)] at this
          exact this
        have v1 := hVr 1 (by have := HC.out; omega)
        have hc1 : (1 : Int) < c := by have := HC.out; omega
        have hd1 : 1 < c := by have := HC.out; omega
        have hc0 : (0 : Int) < c := by have := HC.out; omega
        have hd0 : 0 < c := by have := HC.out; omega
        clear hV hVr HX3
        go_wp2
        go_region_held3 (fun z => z.cell? ⟨w.heap.size, 0, none⟩ = some (.slice la n lc) ∧ z.cell? ⟨w.heap.size, 1, none⟩ = some (.int .i64 s) ∧ z.cell? ⟨w.heap.size + 1 + 1 + 1, 0, none⟩ = some (.slice (some ⟨w.heap.size + 1 + 1, 0, none⟩) c c) ∧ z.cell? ⟨w.heap.size + 1 + 1, 0, none⟩ = some (.slice (some ⟨V 0, 0, none⟩) n n) ∧ z.cell? ⟨w.heap.size + 1 + 1, 1, none⟩ = some (.slice (some ⟨V 1, 0, none⟩) n n)) (first | go_keep)
          (first | (go_at_call 98; refine (release_any (w := _) la n lc s hn60 hsn (F := R (kid 0)) (G := R (kid 1)) ?_ ?_).mono ?_; (exact rowIs_rowB v0); (exact rowIs_rowB v1); rintro e w3 ⟨b3, rfl, h1, h2, h3⟩; have h4 := below_of_drewB h3; have gr0 := below_cell h4 (Nat.le_refl _) r0; have gr1 := below_cell h4 (Nat.le_refl _) r1; have gkv := below_cell h4 (Nat.le_refl _) kv; have gk0 := below_cell h4 (Nat.le_refl _) k0; have gk1 := below_cell h4 (Nat.le_refl _) k1) | fail)
        have H := hid (And.intro h1 (And.intro h2 h4))
        clear h1 h2 h3 h4 gr0 gr1 gkv gk0 gk1 r0 r1 y0 y1 y2 kv k0 k1
        go_wp2
        go_ret
        refine (NewB.from (w1 := wr) ⟨b3, rfl, H.out⟩ HB.out).congr (fun p hp => ?_)
        have e := bk_release (s := s) (m := m) (F := R (kid 0)) (G := R (kid 1)) (by have := HN.out; omega) (HPer.out 0) (HPer.out 1) (p := p) (by have := HN.out; omega)
        rw [← HN.out] at e
        rw [HP.out p, HKK.out 0 (by have := HC.out; omega), HKK.out 1 (by have := HC.out; omega)]
        simpa using e
      · have hcn : c = 1 := by
          have h := HAR.out
          have e : ar 10 = 1 := by decide
          omega
        have HC := hid hcn
        clear hcn HAR
        obtain ⟨V, hV, hVr⟩ := HKb.out.row
        have k0 : wr.cell? ⟨w.heap.size + 1 + 1, 0, none⟩ = some (.slice (some ⟨V 0, 0, none⟩) n n) := by
          have := hV.cell (i := 0) (by have := HC.out; omega)
          rw [if_pos (by have := HC.out; omega)] at this
          exact this
        have v0 := hVr 0 (by have := HC.out; omega)
        have hc0 : (0 : Int) < c := by have := HC.out; omega
        have hd0 : 0 < c := by have := HC.out; omega
        clear hV hVr HX3
        go_wp2
        go_region_held3 (fun z => z.cell? ⟨w.heap.size, 0, none⟩ = some (.slice la n lc) ∧ z.cell? ⟨w.heap.size, 1, none⟩ = some (.int .i64 s) ∧ z.cell? ⟨w.heap.size + 1 + 1 + 1, 0, none⟩ = some (.slice (some ⟨w.heap.size + 1 + 1, 0, none⟩) c c) ∧ z.cell? ⟨w.heap.size + 1 + 1, 0, none⟩ = some (.slice (some ⟨V 0, 0, none⟩) n n)) (first | go_keep)
          (first | (go_at_call 99; refine (all_any (w := _) la n lc s true hn60).mono ?_; rintro e w2 ⟨b2, rfl, i1, i2, i3⟩; have i4 := below_of_drewB i3; have v2 := rowIs_below v0 i4; have pr0 := below_cell i4 (Nat.le_refl _) r0; have pr1 := below_cell i4 (Nat.le_refl _) r1; have pkv := below_cell i4 (Nat.le_refl _) kv; have pk0 := below_cell i4 (Nat.le_refl _) k0) | (go_at_call 97; refine (until_any (w := w2) la n lc s hn60 hsn (F := fun _ => true) (G := R (kid 0)) ?_ ?_).mono ?_; (exact rowIs_rowB i2); (exact rowIs_rowB v2); rintro e w3 ⟨b3, rfl, h1, h2, h3⟩; have gr0 := below_cell h3 (Nat.le_refl _) pr0; have gr1 := below_cell h3 (Nat.le_refl _) pr1; have gkv := below_cell h3 (Nat.le_refl _) pkv; have gk0 := below_cell h3 (Nat.le_refl _) pk0) | fail)
        have H := hid (And.intro (Nat.le_trans i4.size h1) (And.intro h2 (i4.trans (h3.mono i4.size))))
        clear h1 h2 h3 i1 i2 i3 i4 gr0 gr1 gkv gk0 pr0 pr1 pkv pk0 r0 r1 y0 y1 y2 kv k0
        go_wp2
        go_ret
        refine (NewB.from (w1 := wr) ⟨b3, rfl, H.out⟩ HB.out).congr (fun p hp => ?_)
        have e := bk_until (s := s) (m := m) (F := fun _ => true) (G := R (kid 0)) (by have := HN.out; omega) (fun _ _ => rfl) (HPer.out 0) (p := p) (by have := HN.out; omega)
        rw [← HN.out] at e
        rw [HP.out p, HKK.out 0 (by have := HC.out; omega)]
        simpa using e
      · have hcn : c = 1 := by
          have h := HAR.out
          have e : ar 11 = 1 := by decide
          omega
        have HC := hid hcn
        clear hcn HAR
        obtain ⟨V, hV, hVr⟩ := HKb.out.row
        have k0 : wr.cell? ⟨w.heap.size + 1 + 1, 0, none⟩ = some (.slice (some ⟨V 0, 0, none⟩) n n) := by
          have := hV.cell (i := 0) (by have := HC.out; omega)
          rw [if_pos (by have := HC.out; omega)] at this
          exact this
        have v0 := hVr 0 (by have := HC.out; omega)
        have hc0 : (0 : Int) < c := by have := HC.out; omega
        have hd0 : 0 < c := by have := HC.out; omega
        clear hV hVr HX3
        go_wp2
        go_region_held3 (fun z => z.cell? ⟨w.heap.size, 0, none⟩ = some (.slice la n lc) ∧ z.cell? ⟨w.heap.size, 1, none⟩ = some (.int .i64 s) ∧ z.cell? ⟨w.heap.size + 1 + 1 + 1, 0, none⟩ = some (.slice (some ⟨w.heap.size + 1 + 1, 0, none⟩) c c) ∧ z.cell? ⟨w.heap.size + 1 + 1, 0, none⟩ = some (.slice (some ⟨V 0, 0, none⟩) n n)) (first | go_keep)
          (first | (go_at_call 99; refine (all_any (w := _) la n lc s false hn60).mono ?_; rintro e w2 ⟨b2, rfl, i1, i2, i3⟩; have i4 := below_of_drewB i3; have v2 := rowIs_below v0 i4; have pr0 := below_cell i4 (Nat.le_refl _) r0; have pr1 := below_cell i4 (Nat.le_refl _) r1; have pkv := below_cell i4 (Nat.le_refl _) kv; have pk0 := below_cell i4 (Nat.le_refl _) k0) | (go_at_call 98; refine (release_any (w := w2) la n lc s hn60 hsn (F := fun _ => false) (G := R (kid 0)) ?_ ?_).mono ?_; (exact rowIs_rowB i2); (exact rowIs_rowB v2); rintro e w3 ⟨b3, rfl, h1, h2, h3⟩; have gr0 := below_cell h3 (Nat.le_refl _) pr0; have gr1 := below_cell h3 (Nat.le_refl _) pr1; have gkv := below_cell h3 (Nat.le_refl _) pkv; have gk0 := below_cell h3 (Nat.le_refl _) pk0) | fail)
        have H := hid (And.intro (Nat.le_trans i4.size h1) (And.intro h2 (i4.trans (h3.mono i4.size))))
        clear h1 h2 h3 i1 i2 i3 i4 gr0 gr1 gkv gk0 pr0 pr1 pkv pk0 r0 r1 y0 y1 y2 kv k0
        go_wp2
        go_ret
        refine (NewB.from (w1 := wr) ⟨b3, rfl, H.out⟩ HB.out).congr (fun p hp => ?_)
        have e := bk_release (s := s) (m := m) (F := fun _ => false) (G := R (kid 0)) (by have := HN.out; omega) (fun _ _ => rfl) (HPer.out 0) (p := p) (by have := HN.out; omega)
        rw [← HN.out] at e
        rw [HP.out p, HKK.out 0 (by have := HC.out; omega)]
        simpa using e

theorem holds_any (la : Option Addr) (s m lc : Nat) (S L : Nat → Int) (hn : s + m ≤ 60) (hm : 0 < m) (hu64 : ∀ i, 0 ≤ ltr s m S L i ∧ ltr s m S L i < 18446744073709551616) (t : Fml) (a : Option Addr) (cap : Nat) (w : World) (hK : Kds w t a) (hW : Wf t) (hZ : RowU w la (s + m) (ltr s m S L)) :
    Calls Tryz.prog 63 #[.agg #[.slice la ((s + m : Nat)) lc, .int .i64 s], .agg #[.int .i64 t.kind, .int .i64 t.num, .slice a t.cnt cap]] w fun e w' => NewB w (s + m) (hb (s + m) (atm s m S L) t) e w' :=
  holds_aux la s m (s + m) lc S L _ (hid rfl) (hid rfl) hn (by omega) hu64 t a cap w hK hW hZ

end Go.Proofs.YtmdpbaobihdgkaaGreatDoor
