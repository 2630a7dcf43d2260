/- The law AutoWords. The law AutoOne. -/
import Derived.Test.YtdncjikmknkkpaaDoorCln
import Derived.Test.YtdncjikmknkkpaaDoorUnrJ
import Derived.Test.YtdncjikmknkkpaaDoorSgl
namespace Go.Proofs.YtdncjikmknkkpaaDoor
open Go.RowKit

theorem ltr_turn {s m n : Nat} {S L : Nat → Int} (hm : 0 < m) (hn : n ≤ m) : ltr (s + n) m (cat s S L) (fun i => L ((n + i) % m)) = ltr s m S L :=
  ltr_again hm ((ltr_per s m S L).le (Nat.le_add_right _ _)) (fun i hi => cat_ltr (by omega)) (fun i hi => by
    rw [ltr_far (by omega)]
    show L ((n + i) % m) = L ((s + n + i - s) % m)
    congr 2
    omega)

/-- What Accepts answers, by a bool. -/
theorem accepts_b (A : Ax) (wsa : Option Addr) (s wsc : Nat) (wla : Option Addr) (m wlc : Nat) (S' L' : Nat → Int) (w : World) (h : Aw w A) (hw : Wd w wsa s wla m S' L') (hT : Tb w) :
    Calls Tryd.prog 9 #[A.val, .agg #[.slice wsa s wsc, .slice wla m wlc]] w fun e w' => ∃ b, e = .returned (.tuple #[.bool b, .int .i64 (erA A s m)]) ∧ Hid ((erA A s m ≠ 0 → b = false) ∧ (erA A s m = 0 → (b = true ↔ (autA A).Acc (ltr s m S' L'))) ∧ Below w.heap.size w w') := by
  refine (accepts_any A wsa s wsc wla m wlc S' L' w h hw hT).mono ?_
  rintro e w' ⟨⟨b, rfl, h1, h2⟩, h3⟩
  exact ⟨b, rfl, hid ⟨h1, h2, h3⟩⟩

/-- With one more fair set. -/
def moreA (A : Ax) (fa' : Option Addr) (fc' tn : Nat) (TZ : Nat → Int) : Ax := { A with fa := fa', K := A.K + 1, fc := fc', FL := fun r => if r < A.K then A.FL r else tn, FZ := fun r => if r < A.K then A.FZ r else TZ }
/-- With half of the beginnings. -/
def lessA (A : Ax) : Ax := { A with sn := A.sn / 2 }

theorem lessA_aw {w : World} {A : Ax} (h : Aw w A) : Aw w (lessA A) := by
  obtain ⟨b, o, h1, h2⟩ := h.start
  exact ⟨⟨b, o, fun hh => h1 (by have : 0 < A.sn / 2 := hh; omega), fun i hi => h2 i (by have : i < A.sn / 2 := hi; omega)⟩, h.next, h.must, h.nots, h.fair, by have := h.s47; show A.sn / 2 ≤ _; omega, h.g47, h.l47, h.m47, h.o47, h.k47, h.f47, h.mu, h.no⟩

theorem lessA_chk {A : Ax} (h : chkA A = 0) : chkA (lessA A) = 0 := by
  obtain ⟨h1, h2, h3, h4, h5, h6, h7, h8⟩ := chkA_ok h
  have g1 : ¬ (2048 < (lessA A).G ∨ 80 < (lessA A).K) := by show ¬ (2048 < A.G ∨ 80 < A.K); omega
  have g2 : ¬ ((lessA A).M ≠ (lessA A).G ∨ (lessA A).O ≠ (lessA A).G) := by show ¬ (A.M ≠ A.G ∨ A.O ≠ A.G); omega
  unfold chkA
  rw [if_neg g1, if_neg g2, if_pos]
  exact ⟨allIn_yes (fun i hi => h5 i (by have : i < A.sn / 2 := hi; omega)), okL_yes (fun r hr => allIn_yes (h6 r hr)), okL_yes (fun r hr => allIn_yes (h7 r hr))⟩

theorem lessA_acc {A : Ax} {o : Nat → Int} (h : (autA (lessA A)).Acc o) : (autA A).Acc o := by
  refine acc_less (b := autA (lessA A)) (fun q hq => ?_) (fun _ _ h => h) (fun _ _ h => h) (fun k hk => ⟨hk, fun _ h => h⟩) h
  have hq' : has (A.sn / 2) A.S q = true := hq
  show has A.sn A.S q = true
  unfold has at hq' ⊢
  rw [decide_eq_true_eq] at hq' ⊢
  obtain ⟨i, h1, h2⟩ := hq'
  exact ⟨i, by omega, h2⟩

theorem moreA_acc {A : Ax} {fa' : Option Addr} {fc' tn : Nat} {TZ : Nat → Int} {o : Nat → Int} (h : (autA (moreA A fa' fc' tn TZ)).Acc o) : (autA A).Acc o := by
  refine acc_less (b := autA (moreA A fa' fc' tn TZ)) (fun _ h => h) (fun _ _ h => h) (fun _ _ h => h) (fun k hk => ⟨by have : k < A.K := hk; show k < A.K + 1; omega, fun q hq => ?_⟩) h
  have hk' : k < A.K := hk
  have hq' : has (if k < A.K then A.FL k else tn) (if k < A.K then A.FZ k else TZ) q = true := hq
  rw [if_pos hk', if_pos hk'] at hq'
  exact hq'

theorem erA_ok {A : Ax} {s m : Nat} (h : erA A s m = 0) : chkA A = 0 ∧ wchk s m = 0 := by
  unfold erA at h
  by_cases h1 : chkA A = 0
  · rw [if_pos h1] at h; exact ⟨h1, h⟩
  · rw [if_neg h1] at h; exact absurd h h1

theorem erA_of {A : Ax} {s m : Nat} (h : chkA A = 0) : erA A s m = wchk s m := if_pos h

theorem Tryd.elem22 : Tryd.prog.underlying 22 = some (.slice (Tryd.prog.elem 22)) := by kernel_rfl
theorem size22 (w : World) : (Go.sizeOf (Tryd.prog.elem 22)).run Tryd.prog w = .ok 1 w := by
  rw [show Tryd.prog.elem 22 = 3 from by kernel_rfl]
  obtain ⟨i, hi, _, hs, _⟩ := info_parts Tryd.info3
  simp [Go.sizeOf, typeInfo, hi, hs]
theorem sl22 (a : Option Addr) (len cap h : Nat) (hh : h ≤ cap) (w : World) : (Instr.slice 22 (.slice a len cap) none (some (.int .i64 h)) none).run Tryd.prog w = .ok (.slice a h cap) w := by
  rw [run_slice_h (P := Tryd.prog) (w := w) 22 a len cap Tryd.elem22 .i64 h (by omega) (by omega), size22]
  cases a with
  | none => simp [Result.andThen, sliced]
  | some x => simp [Result.andThen, sliced, Addr.add]

theorem moreA_aw {w : World} {A : Ax} {fg fcap tn tc : Nat} {ta : Option Addr} {TZ : Nat → Int} {FA : Nat → Option Addr} {FC : Nat → Nat} (h : Aw w A) (hK : A.K ≤ 80) (hr : Row w ta tn TZ) (ht : tn ≤ 140737488355328)
    (hgr : ∀ r, r < A.K → Row w (FA r) (A.FL r) (A.FZ r)) (hc : ∀ r, r < A.K → w.cell? ⟨fg, r, none⟩ = some (.slice (FA r) (A.FL r) (FC r))) (hc2 : w.cell? ⟨fg, A.K, none⟩ = some (.slice ta tn tc)) : Aw w (moreA A (some ⟨fg, 0, none⟩) fcap tn TZ) := by
  refine ⟨h.start, h.next, h.must, h.nots, ⟨fg, 0, fun _ => rfl, fun r hr' => ?_⟩, h.s47, h.g47, h.l47, h.m47, h.o47, by show A.K + 1 ≤ _; omega, fun r hr' => ?_, h.mu, h.no⟩
  · have hr1 : r < A.K + 1 := hr'
    show ∃ a c, w.cell? ⟨fg, 0 + r, none⟩ = some (.slice a (if r < A.K then A.FL r else tn) c) ∧ Row w a (if r < A.K then A.FL r else tn) (if r < A.K then A.FZ r else TZ)
    rw [Nat.zero_add]
    by_cases e : r < A.K
    · rw [if_pos e, if_pos e]; exact ⟨_, _, hc r e, hgr r e⟩
    · have e2 : r = A.K := by omega
      subst e2
      rw [if_neg e, if_neg e]; exact ⟨_, _, hc2, hr⟩
  · show (if r < A.K then A.FL r else tn) ≤ _
    by_cases e : r < A.K
    · rw [if_pos e]; exact h.f47 r e
    · rw [if_neg e]; exact ht

/-- The list of fair sets has grown by one; the box stays. -/
theorem more_step {w6 w8 w9 : World} {OA : Obj} {v8 v9 : Value} {K : Nat} {V : List Value} {x : Value} {o : Obj} (hbA : w8.heap[w6.heap.size]? = some OA) (hb : Below w6.heap.size w6 w8) (ho : w8.ownsRow (w6.heap.size + 1) 22 1 v8 K V)
    (hown : w9.ownsRow (w6.heap.size + 1) 22 1 v9 (K + 1) (V ++ [x])) (hgrow : (w8.alloc o).grownBy w9 v8.ownBlock) (hsz : w6.heap.size + 1 ≤ w8.heap.size) :
    (∃ g c, v9 = .slice (some ⟨g, 0, none⟩) (K + 1) c) ∧ w9.heap[w6.heap.size]? = some OA ∧ Hid (Below w6.heap.size w6 w9) ∧ Hid (w9.ownsRow (w6.heap.size + 1) 22 1 v9 (K + 1) (V ++ [x])) := by
  have hg : w8.grownBy w9 v8.ownBlock := (World.grownBy_alloc _ _ _).trans hgrow
  have hB := grow_below ho hsz hg
  exact ⟨owns_some hown, (hB.block _ (by omega)).trans hbA, hid (hb.trans (hB.mono (by omega))), hid hown⟩

set_option maxRecDepth 100000 in
set_option maxHeartbeats 8000000 in
theorem autoWords_walk (A : Ax) (wsa : Option Addr) (s wsc : Nat) (wla : Option Addr) (m wlc : Nat) (S' L' : Nat → Int) (k : Int) (ta : Option Addr) (tn tc : Nat) (TZ : Nat → Int) (w : World) (h : Aw w A) (hw : Wd w wsa s wla m S' L') (hT : Tb w)
    (hsc : A.sn ≤ A.sc) (hfn : A.fa = none → A.K = 0 ∧ A.fc = 0) (hsn : wsa = none → s = 0 ∧ wsc = 0) (hlc : m ≤ wlc) (hk1 : -9223372036854775808 ≤ k) (hk2 : k ≤ 9223372036854775807) (hrt : Row w ta tn TZ) (ht47 : tn ≤ 140737488355328) :
    Calls Tryd.prog 7 #[A.val, .agg #[.slice wsa s wsc, .slice wla m wlc], .int .i64 k, .slice ta tn tc] w fun e w' => e = .returned (.bool true) ∧ Below w.heap.size w w' := by
  obtain ⟨W1, hW1, hb1, hs1, hbo, hc0, hc1⟩ := ac_world w A wsa s wsc wla m wlc
  have H := hid h
  have HW := hid hw
  have HT := hid hT
  have HRT := hid hrt
  have HB1 := hid hb1
  obtain ⟨q0, q1, q2, q3, q4⟩ := hbo
  clear h hw hT hrt hb1
  have HTz : Hid (∀ z, Below w.heap.size w z → Tb z) := hid (fun z hz j hj => below_cell hz (Nat.le_refl _) (HT.out j hj))
  have CA := hid (fun (z : World) (hz : Below w.heap.size w z) => accepts_b A wsa s wsc wla m wlc S' L' z (H.out.below hz) (HW.out.below hz) (HTz.out z hz))
  have CE := hid (ever_any W1 (HTz.out _ HB1.out))
  obtain ⟨er, her⟩ : ∃ er, erA A s m = er := ⟨_, rfl⟩
  rw [her] at CA
  have HER := hid her
  clear her
  obtain ⟨sa, sn, sc, na, G, nc, ma, M, mc, oa, O, oc, fa, K, fc, S, L, Z, Mu, No, FL, FZ⟩ := A
  dsimp only [Ax.val] at *
  go_enter Tryd.func7, Tryd.ntmps7
  go_wp2_with fail
  refine CE.out.mono ?_
  rintro e w2 ⟨rfl, hb2⟩
  have p0 := below_cell hb2 (Nat.le_refl _) q0
  have p1 := below_cell hb2 (Nat.le_refl _) q1
  have p2 := below_cell hb2 (Nat.le_refl _) q2
  have p3 := below_cell hb2 (Nat.le_refl _) q3
  have p4 := below_cell hb2 (Nat.le_refl _) q4
  have d0 := below_cell hb2 (Nat.le_refl _) hc0
  have d1 := below_cell hb2 (Nat.le_refl _) hc1
  have HB2 := hid (HB1.out.trans (hb2.mono HB1.out.size))
  have hsz2 : w.heap.size + 2 ≤ w2.heap.size := by have := hb2.size; omega
  clear hs1
  clear hb2 q0 q1 q2 q3 q4 hc0 hc1 CE
  go_wp2_with fail
  refine (CA.out w2 HB2.out).mono ?_
  rintro e w3 ⟨xb, rfl, hx⟩
  have hb3 := hx.out.2.2
  have q0 := below_cell hb3 (Nat.le_refl _) p0
  have q1 := below_cell hb3 (Nat.le_refl _) p1
  have q2 := below_cell hb3 (Nat.le_refl _) p2
  have q3 := below_cell hb3 (Nat.le_refl _) p3
  have q4 := below_cell hb3 (Nat.le_refl _) p4
  have c0 := below_cell hb3 (Nat.le_refl _) d0
  have c1 := below_cell hb3 (Nat.le_refl _) d1
  have HB3 := hid (HB2.out.trans (hb3.mono HB2.out.size))
  have hsz3 : w.heap.size + 2 ≤ w3.heap.size := by have := hb3.size; omega
  clear hb3 p0 p1 p2 p3 p4 d0 d1
  by_cases h0 : er = 0
  · subst h0
    have hXA := hid (hx.out.2.1 rfl)
    clear hx
    obtain ⟨hch, hwc⟩ := erA_ok HER.out
    obtain ⟨h60, hm0⟩ := wchk_ok hwc
    have HCH := hid hch
    have HWC := hid hwc
    obtain ⟨n, hn⟩ : ∃ n : Nat, k % ((m + 1 : Nat) : Int) = n := ⟨(k % ((m + 1 : Nat) : Int)).toNat, by have := Int.emod_nonneg k (show ((m + 1 : Nat) : Int) ≠ 0 by omega); omega⟩
    have hnm : n ≤ m := by have := Int.emod_lt_of_pos k (show 0 < ((m + 1 : Nat) : Int) by omega); omega
    have CU := hid (unrolled_any (HW.out.below HB3.out) hsn hlc h60 hm0 k hk1 hk2 n hn hnm)
    have HTU := hid (ltr_turn (s := s) (m := m) (n := n) (S := S') (L := L') hm0 hnm)
    have hsm : ∀ i, i < s + n → 0 ≤ cat s S' L' i ∧ cat s S' L' i < 18446744073709551616 := by
      intro i hi
      unfold cat
      split
      · exact HW.out.su i (by assumption)
      · exact HW.out.lu _ (by omega)
    have HSM := hid hsm
    have hnm0 : n ≤ 60 := by omega
    clear hn hwc hch hsm
    go_wp2_with fail
    refine CU.out.mono ?_
    rintro e w4 ⟨va, vc, vb, vd, rfl, _, _, _, _, hra, hrb, hb4⟩
    have hD4 : Wd w4 va (s + n) vb m (cat s S' L') (fun i => L' ((n + i) % m)) := ⟨hra, hrb, by omega, by omega, HSM.out, fun i _ => HW.out.lu _ (Nat.mod_lt _ hm0)⟩
    have HD4 := hid hD4
    have HB4 := hid (HB3.out.trans (hb4.mono HB3.out.size))
    have p0 := below_cell hb4 (Nat.le_refl _) q0
    have p1 := below_cell hb4 (Nat.le_refl _) q1
    have p2 := below_cell hb4 (Nat.le_refl _) q2
    have p3 := below_cell hb4 (Nat.le_refl _) q3
    have p4 := below_cell hb4 (Nat.le_refl _) q4
    have d0 := below_cell hb4 (Nat.le_refl _) c0
    have d1 := below_cell hb4 (Nat.le_refl _) c1
    have hsz4 : w.heap.size + 2 ≤ w4.heap.size := by have := hb4.size; omega
    clear hb4 q0 q1 q2 q3 q4 c0 c1 CU hra hrb hD4 hsz2 hsz3 HSM
    generalize cat s S' L' = SU at *
    have r0 := cell_alloc1 (.cells #[.slice va (s + n) vc, .slice vb m vd] 28) p0
    have r1 := cell_alloc1 (.cells #[.slice va (s + n) vc, .slice vb m vd] 28) p1
    have r2 := cell_alloc1 (.cells #[.slice va (s + n) vc, .slice vb m vd] 28) p2
    have r3 := cell_alloc1 (.cells #[.slice va (s + n) vc, .slice vb m vd] 28) p3
    have r4 := cell_alloc1 (.cells #[.slice va (s + n) vc, .slice vb m vd] 28) p4
    have f0 := cell_alloc1 (.cells #[.slice va (s + n) vc, .slice vb m vd] 28) d0
    have f1 := cell_alloc1 (.cells #[.slice va (s + n) vc, .slice vb m vd] 28) d1
    have HB5 := hid (HB4.out.trans ((box_below w4 (.cells #[.slice va (s + n) vc, .slice vb m vd] 28)).mono HB4.out.size))
    have hD5 := HD4.out.below (box_below w4 (.cells #[.slice va (s + n) vc, .slice vb m vd] 28))
    have hv0 : (w4.alloc (.cells #[.slice va (s + n) vc, .slice vb m vd] 28)).cell? ⟨w4.heap.size, 0, none⟩ = some (.slice va (s + n) vc) := cell_of_alloc rfl
    have hv1 : (w4.alloc (.cells #[.slice va (s + n) vc, .slice vb m vd] 28)).cell? ⟨w4.heap.size, 1, none⟩ = some (.slice vb m vd) := cell_of_alloc rfl
    have C2 := hid (accepts_b ⟨sa, sn, sc, na, G, nc, ma, M, mc, oa, O, oc, fa, K, fc, S, L, Z, Mu, No, FL, FZ⟩ va (s + n) vc vb m vd SU (fun i => L' ((n + i) % m)) (w4.alloc (.cells #[.slice va (s + n) vc, .slice vb m vd] 28)) (H.out.below HB5.out) hD5 (HTz.out _ HB5.out))
    obtain ⟨er2, her2⟩ : ∃ er2, erA ⟨sa, sn, sc, na, G, nc, ma, M, mc, oa, O, oc, fa, K, fc, S, L, Z, Mu, No, FL, FZ⟩ (s + n) m = er2 := ⟨_, rfl⟩
    rw [her2, HTU.out] at C2
    dsimp only [Ax.val] at C2
    clear her2 hD5 p0 p1 p2 p3 p4 d0 d1 HD4
    go_wp2_with fail
    refine C2.out.mono ?_
    rintro e w6 ⟨yb, rfl, hy⟩
    have hb6 := hy.out.2.2
    have q0 := below_cell hb6 (Nat.le_refl _) r0
    have q1 := below_cell hb6 (Nat.le_refl _) r1
    have q2 := below_cell hb6 (Nat.le_refl _) r2
    have q3 := below_cell hb6 (Nat.le_refl _) r3
    have q4 := below_cell hb6 (Nat.le_refl _) r4
    have c0 := below_cell hb6 (Nat.le_refl _) f0
    have c1 := below_cell hb6 (Nat.le_refl _) f1
    have HB6 := hid (HB5.out.trans (hb6.mono HB5.out.size))
    have hsz6 : w.heap.size + 2 ≤ w6.heap.size := by have := hb6.size; rw [World.size_alloc] at this; omega
    have hxy : er2 = 0 → xb = yb := fun h2 => by rw [Bool.eq_iff_iff, hXA.out, hy.out.2.1 h2]
    have HXY := hid hxy
    clear hb6 r0 r1 r2 r3 r4 f0 f1 hv0 hv1 C2 hxy hy HTU
    obtain ⟨FA, FC, hgv, hgr⟩ := gr_vals (H.out.below HB6.out).fair
    have HGV := hid hgv
    have HGR := hid hgr
    have hK80 : K ≤ 80 := (chkA_ok HCH.out).2.1
    have CC := hid (fun (z : World) (hz : Below w6.heap.size w6 z) => cloneG_any fa K fc FA FL FC z (by omega) (by
      obtain ⟨gb, go, h1, h2⟩ := HGV.out
      exact ⟨gb, go, h1, fun r hr => below_cell hz (Nat.le_refl _) (h2 r hr)⟩) hfn)
    have r0 := cell_alloc1 (.cells #[.slice sa sn sc, .slice na G nc, .slice ma M mc, .slice oa O oc, .slice fa K fc] 26) q0
    have r1 := cell_alloc1 (.cells #[.slice sa sn sc, .slice na G nc, .slice ma M mc, .slice oa O oc, .slice fa K fc] 26) q1
    have r2 := cell_alloc1 (.cells #[.slice sa sn sc, .slice na G nc, .slice ma M mc, .slice oa O oc, .slice fa K fc] 26) q2
    have r3 := cell_alloc1 (.cells #[.slice sa sn sc, .slice na G nc, .slice ma M mc, .slice oa O oc, .slice fa K fc] 26) q3
    have r4 := cell_alloc1 (.cells #[.slice sa sn sc, .slice na G nc, .slice ma M mc, .slice oa O oc, .slice fa K fc] 26) q4
    have f0 := cell_alloc1 (.cells #[.slice sa sn sc, .slice na G nc, .slice ma M mc, .slice oa O oc, .slice fa K fc] 26) c0
    have f1 := cell_alloc1 (.cells #[.slice sa sn sc, .slice na G nc, .slice ma M mc, .slice oa O oc, .slice fa K fc] 26) c1
    have hbA : (w6.alloc (.cells #[.slice sa sn sc, .slice na G nc, .slice ma M mc, .slice oa O oc, .slice fa K fc] 26)).heap[w6.heap.size]? = some (.cells #[.slice sa sn sc, .slice na G nc, .slice ma M mc, .slice oa O oc, .slice fa K fc] 26) := Go.Deep.blk_alloc_new _ _
    have HB7 := hid (box_below w6 (.cells #[.slice sa sn sc, .slice na G nc, .slice ma M mc, .slice oa O oc, .slice fa K fc] 26))
    have hs7 : (w6.alloc (.cells #[.slice sa sn sc, .slice na G nc, .slice ma M mc, .slice oa O oc, .slice fa K fc] 26)).heap.size = w6.heap.size + 1 := by simp
    have hgo : (er2 == 0) = false ∨ ((er2 == 0) = true ∧ xb = yb) := by
      by_cases h2 : er2 = 0
      · exact Or.inr ⟨by simp [h2], HXY.out h2⟩
      · exact Or.inl (by simp [h2])
    clear hgv hgr HXY
    rcases hgo with h2 | ⟨h2, rfl⟩
    · go_wp2_with fail
      refine (CC.out _ HB7.out).mono ?_
      rintro e w8 ⟨v8, rfl, hown8, hb8⟩
      have s0 := below_cell hb8 (Nat.le_refl _) r0
      have s1 := below_cell hb8 (Nat.le_refl _) r1
      have s2 := below_cell hb8 (Nat.le_refl _) r2
      have s3 := below_cell hb8 (Nat.le_refl _) r3
      have s4 := below_cell hb8 (Nat.le_refl _) r4
      have g0 := below_cell hb8 (Nat.le_refl _) f0
      have g1 := below_cell hb8 (Nat.le_refl _) f1
      have hbA8 : w8.heap[w6.heap.size]? = some (.cells #[.slice sa sn sc, .slice na G nc, .slice ma M mc, .slice oa O oc, .slice fa K fc] 26) := (hb8.block _ (by omega)).trans hbA
      have hsz8 : w6.heap.size + 1 ≤ w8.heap.size := by have := hb8.size; omega
      have HB8 := hid (HB7.out.trans (hb8.mono (by omega)))
      have HO8 := hid hown8
      rw [hs7] at HO8
      have HBA8 := hid hbA8
      obtain ⟨i1, hi, hz0, hz1, hz2⟩ := info_parts Tryd.info22b
      have HI : Hid (Tryd.prog.info? 22 = some i1 ∧ i1.zero = some (.slice none 0 0) ∧ i1.size = 1 ∧ i1.bytes = 24) := ⟨hi, hz0, hz1, hz2⟩
      clear hi hz0 hz1 hz2 hown8 hb8 r0 r1 r2 r3 r4 f0 f1 hbA hbA8 hs7 CC
      have u0 : w8.cell? ⟨w6.heap.size, 0, none⟩ = some (.slice sa sn sc) := cell_of_cells HBA8.out rfl
      have CW := hid (fun (w9 : World) (v9 : Value) (hown : w9.ownsRow (w6.heap.size + 1) 22 1 v9 (K + 1) (vlst (fun r => .slice (FA r) (FL r) (FC r)) K ++ [.slice ta tn tc])) (hgrow : (w8.alloc (.cells #[.slice ta tn tc] 22)).grownBy w9 v8.ownBlock) => more_step HBA8.out HB8.out HO8.out hown hgrow hsz8)
      go_wp2_with (at_builtin; refine wpList_append_own_at _ rfl _ _ 23 rfl (w6.heap.size + 1) 22 i1 _ 1 24 Tryd.underlying23 HI.out.1 HI.out.2.1 HI.out.2.2.1 HI.out.2.2.2 rfl (by decide) _ _ _ rfl (HO8.out.alloc _) ⟨w8.heap.size, 0, none⟩ 1 1 [.slice ta tn tc] rfl rfl (cell_one_new _ _ _) (by simp [Value.oneCell']) (by unfold maxLen; omega) (by omega) (by simp; omega) ?_; intro v9 w9 hown hgrow hnil hloc; obtain ⟨⟨fg, fcap, rfl⟩, m4, m5, M9⟩ := CW.out w9 v9 hown hgrow; have b0 := cell_of_cells (i := 0) m4 rfl; have b1 := cell_of_cells (i := 1) m4 rfl; have b2 := cell_of_cells (i := 2) m4 rfl; have b3 := cell_of_cells (i := 3) m4 rfl; have b4 := cell_of_cells (i := 4) m4 rfl; have bz := fz_of m4 4; have k0 := below_cell m5.out (Nat.le_refl _) c0; have k1 := below_cell m5.out (Nat.le_refl _) c1; have hne6 : w6.heap.size ≠ w.heap.size + 1 := (by omega); clear hown hgrow hnil hloc)
      have hB10 : Below w6.heap.size w6 (w9.setCell ⟨w6.heap.size, 4, none⟩ (.slice (some ⟨fg, 0, none⟩) (K + 1) fcap)) := m5.out.setCell (Nat.le_refl _) _
      have hBw10 := HB6.out.trans (hB10.mono HB6.out.size)
      have hfg : w6.heap.size + 1 ≤ fg := (M9.out.lt fg rfl).1
      have hcs : ∀ r (u : Value), (vlst (fun r => .slice (FA r) (FL r) (FC r)) K ++ [.slice ta tn tc])[r]? = some u → (w9.setCell ⟨w6.heap.size, 4, none⟩ (.slice (some ⟨fg, 0, none⟩) (K + 1) fcap)).cell? ⟨fg, r, none⟩ = some u := fun r u hu => by
        have h1 := M9.out.cells (g := fg) rfl r u hu
        rw [Addr.add_mid, Nat.zero_add] at h1
        rw [World.cell?_setCell_far _ _ _ _ (by dsimp only; omega)]
        exact h1
      have hA10 : Aw (w9.setCell ⟨w6.heap.size, 4, none⟩ (.slice (some ⟨fg, 0, none⟩) (K + 1) fcap)) (moreA ⟨sa, sn, sc, na, G, nc, ma, M, mc, oa, O, oc, fa, K, fc, S, L, Z, Mu, No, FL, FZ⟩ (some ⟨fg, 0, none⟩) fcap tn TZ) := moreA_aw (FA := FA) (FC := FC) (ta := ta) (tc := tc) (H.out.below hBw10) hK80 (HRT.out.below hBw10) ht47 (fun r hr => (HGR.out r hr).below hB10)
        (fun r hr => hcs r _ (by rw [List.getElem?_append_left (by rw [vlst_len]; exact hr)]; exact vlst_at _ _ _ hr)) (hcs K _ (by rw [List.getElem?_append_right (by rw [vlst_len]; exact Nat.le_refl _), vlst_len, Nat.sub_self]; rfl))
      have C3 := hid (accepts_b _ wsa s wsc wla m wlc S' L' _ hA10 (HW.out.below hBw10) (HTz.out _ hBw10))
      have HB10 := hid hB10
      have hxz : ∀ zb, (erA (moreA ⟨sa, sn, sc, na, G, nc, ma, M, mc, oa, O, oc, fa, K, fc, S, L, Z, Mu, No, FL, FZ⟩ (some ⟨fg, 0, none⟩) fcap tn TZ) s m = 0 → (zb = true ↔ (autA (moreA ⟨sa, sn, sc, na, G, nc, ma, M, mc, oa, O, oc, fa, K, fc, S, L, Z, Mu, No, FL, FZ⟩ (some ⟨fg, 0, none⟩) fcap tn TZ)).Acc (ltr s m S' L'))) → erA (moreA ⟨sa, sn, sc, na, G, nc, ma, M, mc, oa, O, oc, fa, K, fc, S, L, Z, Mu, No, FL, FZ⟩ (some ⟨fg, 0, none⟩) fcap tn TZ) s m = 0 → zb = true → xb = true := fun zb h1 h2 h3 => hXA.out.2 (moreA_acc ((h1 h2).1 h3))
      have HXZ := hid hxz
      generalize erA (moreA ⟨sa, sn, sc, na, G, nc, ma, M, mc, oa, O, oc, fa, K, fc, S, L, Z, Mu, No, FL, FZ⟩ (some ⟨fg, 0, none⟩) fcap tn TZ) s m = er3 at C3 HXZ
      have j0 := below_cell hB10 (Nat.le_refl _) q0
      have j1 := below_cell hB10 (Nat.le_refl _) q1
      have j2 := below_cell hB10 (Nat.le_refl _) q2
      have j3 := below_cell hB10 (Nat.le_refl _) q3
      have j4 := below_cell hB10 (Nat.le_refl _) q4
      have i0 := below_cell hB10 (Nat.le_refl _) c0
      have i1 := below_cell hB10 (Nat.le_refl _) c1
      clear hxz hcs hA10 hBw10 hB10 b0 b1 b2 b3 b4 bz k0 k1 q0 q1 q2 q3 q4 c0 c1 m4 m5 M9
      generalize w9.setCell ⟨w6.heap.size, 4, none⟩ (.slice (some ⟨fg, 0, none⟩) (K + 1) fcap) = w10 at *
      refine C3.out.mono ?_
      rintro e w11 ⟨zb, rfl, hz⟩
      have hb11 := hz.out.2.2
      have l0 := below_cell hb11 (Nat.le_refl _) j0
      have l1 := below_cell hb11 (Nat.le_refl _) j1
      have l2 := below_cell hb11 (Nat.le_refl _) j2
      have l3 := below_cell hb11 (Nat.le_refl _) j3
      have l4 := below_cell hb11 (Nat.le_refl _) j4
      have v0 := below_cell hb11 (Nat.le_refl _) i0
      have v1 := below_cell hb11 (Nat.le_refl _) i1
      have o0 := cell_alloc1 (.cells #[.slice sa sn sc, .slice na G nc, .slice ma M mc, .slice oa O oc, .slice fa K fc] 26) l0
      have o1 := cell_alloc1 (.cells #[.slice sa sn sc, .slice na G nc, .slice ma M mc, .slice oa O oc, .slice fa K fc] 26) v0
      have o2 := cell_alloc1 (.cells #[.slice sa sn sc, .slice na G nc, .slice ma M mc, .slice oa O oc, .slice fa K fc] 26) v1
      have o3 := cell_alloc1 (.cells #[.slice sa (sn / 2) sc, .slice na G nc, .slice ma M mc, .slice oa O oc, .slice fa K fc] 26) v0
      have o4 := cell_alloc1 (.cells #[.slice sa (sn / 2) sc, .slice na G nc, .slice ma M mc, .slice oa O oc, .slice fa K fc] 26) v1
      have HBx := hid ((HB6.out.trans (HB10.out.mono HB6.out.size)).trans (hb11.mono (Nat.le_trans HB6.out.size HB10.out.size)))
      have hcz : (er3 == 0) = false ∨ (er3 == 0) = true ∧ zb = false ∨ (er3 == 0) = true ∧ zb = true ∧ xb = true := by
        by_cases g1 : er3 = 0
        · cases zb
          · exact Or.inr (Or.inl ⟨by simp [g1], rfl⟩)
          · exact Or.inr (Or.inr ⟨by simp [g1], rfl, HXZ.out true (fun h => hz.out.2.1 h) g1 rfl⟩)
        · exact Or.inl (by simp [g1])
      have hs47 : sn ≤ 140737488355328 := H.out.s47
      have hsl := sl22 sa sn sc (sn / 2) (by omega)
      clear hb11 j0 j1 j2 j3 j4 i0 i1 HXZ hz C3
      rcases hcz with h3 | ⟨h3, rfl⟩ | ⟨h3, rfl, rfl⟩
      · go_wp2_with fail
        have C4 := accepts_b (lessA ⟨sa, sn, sc, na, G, nc, ma, M, mc, oa, O, oc, fa, K, fc, S, L, Z, Mu, No, FL, FZ⟩) wsa s wsc wla m wlc S' L' (w11.alloc (.cells #[.slice sa (sn / 2) sc, .slice na G nc, .slice ma M mc, .slice oa O oc, .slice fa K fc] 26)) (lessA_aw (H.out.below (HBx.out.trans ((box_below w11 (.cells #[.slice sa (sn / 2) sc, .slice na G nc, .slice ma M mc, .slice oa O oc, .slice fa K fc] 26)).mono HBx.out.size)))) (HW.out.below (HBx.out.trans ((box_below w11 (.cells #[.slice sa (sn / 2) sc, .slice na G nc, .slice ma M mc, .slice oa O oc, .slice fa K fc] 26)).mono HBx.out.size))) (HTz.out _ (HBx.out.trans ((box_below w11 (.cells #[.slice sa (sn / 2) sc, .slice na G nc, .slice ma M mc, .slice oa O oc, .slice fa K fc] 26)).mono HBx.out.size)))
        have he4 : erA (lessA ⟨sa, sn, sc, na, G, nc, ma, M, mc, oa, O, oc, fa, K, fc, S, L, Z, Mu, No, FL, FZ⟩) s m = 0 := (erA_of (lessA_chk HCH.out)).trans HWC.out
        rw [he4] at C4
        refine C4.mono ?_
        rintro e w13 ⟨ub, rfl, hu⟩
        have hux : ub = true → xb = true := fun h => hXA.out.2 (lessA_acc ((hu.out.2.1 rfl).1 h))
        have HBf := hid ((HBx.out.trans ((box_below w11 (.cells #[.slice sa (sn / 2) sc, .slice na G nc, .slice ma M mc, .slice oa O oc, .slice fa K fc] 26)).mono HBx.out.size)).trans (hu.out.2.2.mono (by have := HBx.out.size; simp; omega)))
        clear hu C4 he4
        cases xb
        · have hub : ub = false := by
            cases ub
            · rfl
            · exact absurd (hux rfl) (by decide)
          subst hub
          go_wp2
          go_ret
          exact ⟨rfl, HBf.out⟩
        · go_wp2
          go_ret
          exact ⟨rfl, HBf.out⟩
      · go_wp2_with fail
        have C4 := accepts_b (lessA ⟨sa, sn, sc, na, G, nc, ma, M, mc, oa, O, oc, fa, K, fc, S, L, Z, Mu, No, FL, FZ⟩) wsa s wsc wla m wlc S' L' (w11.alloc (.cells #[.slice sa (sn / 2) sc, .slice na G nc, .slice ma M mc, .slice oa O oc, .slice fa K fc] 26)) (lessA_aw (H.out.below (HBx.out.trans ((box_below w11 (.cells #[.slice sa (sn / 2) sc, .slice na G nc, .slice ma M mc, .slice oa O oc, .slice fa K fc] 26)).mono HBx.out.size)))) (HW.out.below (HBx.out.trans ((box_below w11 (.cells #[.slice sa (sn / 2) sc, .slice na G nc, .slice ma M mc, .slice oa O oc, .slice fa K fc] 26)).mono HBx.out.size))) (HTz.out _ (HBx.out.trans ((box_below w11 (.cells #[.slice sa (sn / 2) sc, .slice na G nc, .slice ma M mc, .slice oa O oc, .slice fa K fc] 26)).mono HBx.out.size)))
        have he4 : erA (lessA ⟨sa, sn, sc, na, G, nc, ma, M, mc, oa, O, oc, fa, K, fc, S, L, Z, Mu, No, FL, FZ⟩) s m = 0 := (erA_of (lessA_chk HCH.out)).trans HWC.out
        rw [he4] at C4
        refine C4.mono ?_
        rintro e w13 ⟨ub, rfl, hu⟩
        have hux : ub = true → xb = true := fun h => hXA.out.2 (lessA_acc ((hu.out.2.1 rfl).1 h))
        have HBf := hid ((HBx.out.trans ((box_below w11 (.cells #[.slice sa (sn / 2) sc, .slice na G nc, .slice ma M mc, .slice oa O oc, .slice fa K fc] 26)).mono HBx.out.size)).trans (hu.out.2.2.mono (by have := HBx.out.size; simp; omega)))
        clear hu C4 he4
        cases xb
        · have hub : ub = false := by
            cases ub
            · rfl
            · exact absurd (hux rfl) (by decide)
          subst hub
          go_wp2
          go_ret
          exact ⟨rfl, HBf.out⟩
        · go_wp2
          go_ret
          exact ⟨rfl, HBf.out⟩
      · go_wp2_with fail
        have C4 := accepts_b (lessA ⟨sa, sn, sc, na, G, nc, ma, M, mc, oa, O, oc, fa, K, fc, S, L, Z, Mu, No, FL, FZ⟩) wsa s wsc wla m wlc S' L' (w11.alloc (.cells #[.slice sa (sn / 2) sc, .slice na G nc, .slice ma M mc, .slice oa O oc, .slice fa K fc] 26)) (lessA_aw (H.out.below (HBx.out.trans ((box_below w11 (.cells #[.slice sa (sn / 2) sc, .slice na G nc, .slice ma M mc, .slice oa O oc, .slice fa K fc] 26)).mono HBx.out.size)))) (HW.out.below (HBx.out.trans ((box_below w11 (.cells #[.slice sa (sn / 2) sc, .slice na G nc, .slice ma M mc, .slice oa O oc, .slice fa K fc] 26)).mono HBx.out.size))) (HTz.out _ (HBx.out.trans ((box_below w11 (.cells #[.slice sa (sn / 2) sc, .slice na G nc, .slice ma M mc, .slice oa O oc, .slice fa K fc] 26)).mono HBx.out.size)))
        have he4 : erA (lessA ⟨sa, sn, sc, na, G, nc, ma, M, mc, oa, O, oc, fa, K, fc, S, L, Z, Mu, No, FL, FZ⟩) s m = 0 := (erA_of (lessA_chk HCH.out)).trans HWC.out
        rw [he4] at C4
        refine C4.mono ?_
        rintro e w13 ⟨ub, rfl, hu⟩
        have HBf := hid ((HBx.out.trans ((box_below w11 (.cells #[.slice sa (sn / 2) sc, .slice na G nc, .slice ma M mc, .slice oa O oc, .slice fa K fc] 26)).mono HBx.out.size)).trans (hu.out.2.2.mono (by have := HBx.out.size; simp; omega)))
        clear hu C4 he4
        go_wp2
        go_ret
        exact ⟨rfl, HBf.out⟩
    · go_wp2_with fail
      refine (CC.out _ HB7.out).mono ?_
      rintro e w8 ⟨v8, rfl, hown8, hb8⟩
      have s0 := below_cell hb8 (Nat.le_refl _) r0
      have s1 := below_cell hb8 (Nat.le_refl _) r1
      have s2 := below_cell hb8 (Nat.le_refl _) r2
      have s3 := below_cell hb8 (Nat.le_refl _) r3
      have s4 := below_cell hb8 (Nat.le_refl _) r4
      have g0 := below_cell hb8 (Nat.le_refl _) f0
      have g1 := below_cell hb8 (Nat.le_refl _) f1
      have hbA8 : w8.heap[w6.heap.size]? = some (.cells #[.slice sa sn sc, .slice na G nc, .slice ma M mc, .slice oa O oc, .slice fa K fc] 26) := (hb8.block _ (by omega)).trans hbA
      have hsz8 : w6.heap.size + 1 ≤ w8.heap.size := by have := hb8.size; omega
      have HB8 := hid (HB7.out.trans (hb8.mono (by omega)))
      have HO8 := hid hown8
      rw [hs7] at HO8
      have HBA8 := hid hbA8
      obtain ⟨i1, hi, hz0, hz1, hz2⟩ := info_parts Tryd.info22b
      have HI : Hid (Tryd.prog.info? 22 = some i1 ∧ i1.zero = some (.slice none 0 0) ∧ i1.size = 1 ∧ i1.bytes = 24) := ⟨hi, hz0, hz1, hz2⟩
      clear hi hz0 hz1 hz2 hown8 hb8 r0 r1 r2 r3 r4 f0 f1 hbA hbA8 hs7 CC
      have u0 : w8.cell? ⟨w6.heap.size, 0, none⟩ = some (.slice sa sn sc) := cell_of_cells HBA8.out rfl
      have CW := hid (fun (w9 : World) (v9 : Value) (hown : w9.ownsRow (w6.heap.size + 1) 22 1 v9 (K + 1) (vlst (fun r => .slice (FA r) (FL r) (FC r)) K ++ [.slice ta tn tc])) (hgrow : (w8.alloc (.cells #[.slice ta tn tc] 22)).grownBy w9 v8.ownBlock) => more_step HBA8.out HB8.out HO8.out hown hgrow hsz8)
      go_wp2_with (at_builtin; refine wpList_append_own_at _ rfl _ _ 23 rfl (w6.heap.size + 1) 22 i1 _ 1 24 Tryd.underlying23 HI.out.1 HI.out.2.1 HI.out.2.2.1 HI.out.2.2.2 rfl (by decide) _ _ _ rfl (HO8.out.alloc _) ⟨w8.heap.size, 0, none⟩ 1 1 [.slice ta tn tc] rfl rfl (cell_one_new _ _ _) (by simp [Value.oneCell']) (by unfold maxLen; omega) (by omega) (by simp; omega) ?_; intro v9 w9 hown hgrow hnil hloc; obtain ⟨⟨fg, fcap, rfl⟩, m4, m5, M9⟩ := CW.out w9 v9 hown hgrow; have b0 := cell_of_cells (i := 0) m4 rfl; have b1 := cell_of_cells (i := 1) m4 rfl; have b2 := cell_of_cells (i := 2) m4 rfl; have b3 := cell_of_cells (i := 3) m4 rfl; have b4 := cell_of_cells (i := 4) m4 rfl; have bz := fz_of m4 4; have k0 := below_cell m5.out (Nat.le_refl _) c0; have k1 := below_cell m5.out (Nat.le_refl _) c1; have hne6 : w6.heap.size ≠ w.heap.size + 1 := (by omega); clear hown hgrow hnil hloc)
      have hB10 : Below w6.heap.size w6 (w9.setCell ⟨w6.heap.size, 4, none⟩ (.slice (some ⟨fg, 0, none⟩) (K + 1) fcap)) := m5.out.setCell (Nat.le_refl _) _
      have hBw10 := HB6.out.trans (hB10.mono HB6.out.size)
      have hfg : w6.heap.size + 1 ≤ fg := (M9.out.lt fg rfl).1
      have hcs : ∀ r (u : Value), (vlst (fun r => .slice (FA r) (FL r) (FC r)) K ++ [.slice ta tn tc])[r]? = some u → (w9.setCell ⟨w6.heap.size, 4, none⟩ (.slice (some ⟨fg, 0, none⟩) (K + 1) fcap)).cell? ⟨fg, r, none⟩ = some u := fun r u hu => by
        have h1 := M9.out.cells (g := fg) rfl r u hu
        rw [Addr.add_mid, Nat.zero_add] at h1
        rw [World.cell?_setCell_far _ _ _ _ (by dsimp only; omega)]
        exact h1
      have hA10 : Aw (w9.setCell ⟨w6.heap.size, 4, none⟩ (.slice (some ⟨fg, 0, none⟩) (K + 1) fcap)) (moreA ⟨sa, sn, sc, na, G, nc, ma, M, mc, oa, O, oc, fa, K, fc, S, L, Z, Mu, No, FL, FZ⟩ (some ⟨fg, 0, none⟩) fcap tn TZ) := moreA_aw (FA := FA) (FC := FC) (ta := ta) (tc := tc) (H.out.below hBw10) hK80 (HRT.out.below hBw10) ht47 (fun r hr => (HGR.out r hr).below hB10)
        (fun r hr => hcs r _ (by rw [List.getElem?_append_left (by rw [vlst_len]; exact hr)]; exact vlst_at _ _ _ hr)) (hcs K _ (by rw [List.getElem?_append_right (by rw [vlst_len]; exact Nat.le_refl _), vlst_len, Nat.sub_self]; rfl))
      have C3 := hid (accepts_b _ wsa s wsc wla m wlc S' L' _ hA10 (HW.out.below hBw10) (HTz.out _ hBw10))
      have HB10 := hid hB10
      have hxz : ∀ zb, (erA (moreA ⟨sa, sn, sc, na, G, nc, ma, M, mc, oa, O, oc, fa, K, fc, S, L, Z, Mu, No, FL, FZ⟩ (some ⟨fg, 0, none⟩) fcap tn TZ) s m = 0 → (zb = true ↔ (autA (moreA ⟨sa, sn, sc, na, G, nc, ma, M, mc, oa, O, oc, fa, K, fc, S, L, Z, Mu, No, FL, FZ⟩ (some ⟨fg, 0, none⟩) fcap tn TZ)).Acc (ltr s m S' L'))) → erA (moreA ⟨sa, sn, sc, na, G, nc, ma, M, mc, oa, O, oc, fa, K, fc, S, L, Z, Mu, No, FL, FZ⟩ (some ⟨fg, 0, none⟩) fcap tn TZ) s m = 0 → zb = true → xb = true := fun zb h1 h2 h3 => hXA.out.2 (moreA_acc ((h1 h2).1 h3))
      have HXZ := hid hxz
      generalize erA (moreA ⟨sa, sn, sc, na, G, nc, ma, M, mc, oa, O, oc, fa, K, fc, S, L, Z, Mu, No, FL, FZ⟩ (some ⟨fg, 0, none⟩) fcap tn TZ) s m = er3 at C3 HXZ
      have j0 := below_cell hB10 (Nat.le_refl _) q0
      have j1 := below_cell hB10 (Nat.le_refl _) q1
      have j2 := below_cell hB10 (Nat.le_refl _) q2
      have j3 := below_cell hB10 (Nat.le_refl _) q3
      have j4 := below_cell hB10 (Nat.le_refl _) q4
      have i0 := below_cell hB10 (Nat.le_refl _) c0
      have i1 := below_cell hB10 (Nat.le_refl _) c1
      clear hxz hcs hA10 hBw10 hB10 b0 b1 b2 b3 b4 bz k0 k1 q0 q1 q2 q3 q4 c0 c1 m4 m5 M9
      generalize w9.setCell ⟨w6.heap.size, 4, none⟩ (.slice (some ⟨fg, 0, none⟩) (K + 1) fcap) = w10 at *
      refine C3.out.mono ?_
      rintro e w11 ⟨zb, rfl, hz⟩
      have hb11 := hz.out.2.2
      have l0 := below_cell hb11 (Nat.le_refl _) j0
      have l1 := below_cell hb11 (Nat.le_refl _) j1
      have l2 := below_cell hb11 (Nat.le_refl _) j2
      have l3 := below_cell hb11 (Nat.le_refl _) j3
      have l4 := below_cell hb11 (Nat.le_refl _) j4
      have v0 := below_cell hb11 (Nat.le_refl _) i0
      have v1 := below_cell hb11 (Nat.le_refl _) i1
      have o0 := cell_alloc1 (.cells #[.slice sa sn sc, .slice na G nc, .slice ma M mc, .slice oa O oc, .slice fa K fc] 26) l0
      have o1 := cell_alloc1 (.cells #[.slice sa sn sc, .slice na G nc, .slice ma M mc, .slice oa O oc, .slice fa K fc] 26) v0
      have o2 := cell_alloc1 (.cells #[.slice sa sn sc, .slice na G nc, .slice ma M mc, .slice oa O oc, .slice fa K fc] 26) v1
      have o3 := cell_alloc1 (.cells #[.slice sa (sn / 2) sc, .slice na G nc, .slice ma M mc, .slice oa O oc, .slice fa K fc] 26) v0
      have o4 := cell_alloc1 (.cells #[.slice sa (sn / 2) sc, .slice na G nc, .slice ma M mc, .slice oa O oc, .slice fa K fc] 26) v1
      have HBx := hid ((HB6.out.trans (HB10.out.mono HB6.out.size)).trans (hb11.mono (Nat.le_trans HB6.out.size HB10.out.size)))
      have hcz : (er3 == 0) = false ∨ (er3 == 0) = true ∧ zb = false ∨ (er3 == 0) = true ∧ zb = true ∧ xb = true := by
        by_cases g1 : er3 = 0
        · cases zb
          · exact Or.inr (Or.inl ⟨by simp [g1], rfl⟩)
          · exact Or.inr (Or.inr ⟨by simp [g1], rfl, HXZ.out true (fun h => hz.out.2.1 h) g1 rfl⟩)
        · exact Or.inl (by simp [g1])
      have hs47 : sn ≤ 140737488355328 := H.out.s47
      have hsl := sl22 sa sn sc (sn / 2) (by omega)
      clear hb11 j0 j1 j2 j3 j4 i0 i1 HXZ hz C3
      rcases hcz with h3 | ⟨h3, rfl⟩ | ⟨h3, rfl, rfl⟩
      · go_wp2_with fail
        have C4 := accepts_b (lessA ⟨sa, sn, sc, na, G, nc, ma, M, mc, oa, O, oc, fa, K, fc, S, L, Z, Mu, No, FL, FZ⟩) wsa s wsc wla m wlc S' L' (w11.alloc (.cells #[.slice sa (sn / 2) sc, .slice na G nc, .slice ma M mc, .slice oa O oc, .slice fa K fc] 26)) (lessA_aw (H.out.below (HBx.out.trans ((box_below w11 (.cells #[.slice sa (sn / 2) sc, .slice na G nc, .slice ma M mc, .slice oa O oc, .slice fa K fc] 26)).mono HBx.out.size)))) (HW.out.below (HBx.out.trans ((box_below w11 (.cells #[.slice sa (sn / 2) sc, .slice na G nc, .slice ma M mc, .slice oa O oc, .slice fa K fc] 26)).mono HBx.out.size))) (HTz.out _ (HBx.out.trans ((box_below w11 (.cells #[.slice sa (sn / 2) sc, .slice na G nc, .slice ma M mc, .slice oa O oc, .slice fa K fc] 26)).mono HBx.out.size)))
        have he4 : erA (lessA ⟨sa, sn, sc, na, G, nc, ma, M, mc, oa, O, oc, fa, K, fc, S, L, Z, Mu, No, FL, FZ⟩) s m = 0 := (erA_of (lessA_chk HCH.out)).trans HWC.out
        rw [he4] at C4
        refine C4.mono ?_
        rintro e w13 ⟨ub, rfl, hu⟩
        have hux : ub = true → xb = true := fun h => hXA.out.2 (lessA_acc ((hu.out.2.1 rfl).1 h))
        have HBf := hid ((HBx.out.trans ((box_below w11 (.cells #[.slice sa (sn / 2) sc, .slice na G nc, .slice ma M mc, .slice oa O oc, .slice fa K fc] 26)).mono HBx.out.size)).trans (hu.out.2.2.mono (by have := HBx.out.size; simp; omega)))
        clear hu C4 he4
        cases xb
        · have hub : ub = false := by
            cases ub
            · rfl
            · exact absurd (hux rfl) (by decide)
          subst hub
          go_wp2
          go_ret
          exact ⟨rfl, HBf.out⟩
        · go_wp2
          go_ret
          exact ⟨rfl, HBf.out⟩
      · go_wp2_with fail
        have C4 := accepts_b (lessA ⟨sa, sn, sc, na, G, nc, ma, M, mc, oa, O, oc, fa, K, fc, S, L, Z, Mu, No, FL, FZ⟩) wsa s wsc wla m wlc S' L' (w11.alloc (.cells #[.slice sa (sn / 2) sc, .slice na G nc, .slice ma M mc, .slice oa O oc, .slice fa K fc] 26)) (lessA_aw (H.out.below (HBx.out.trans ((box_below w11 (.cells #[.slice sa (sn / 2) sc, .slice na G nc, .slice ma M mc, .slice oa O oc, .slice fa K fc] 26)).mono HBx.out.size)))) (HW.out.below (HBx.out.trans ((box_below w11 (.cells #[.slice sa (sn / 2) sc, .slice na G nc, .slice ma M mc, .slice oa O oc, .slice fa K fc] 26)).mono HBx.out.size))) (HTz.out _ (HBx.out.trans ((box_below w11 (.cells #[.slice sa (sn / 2) sc, .slice na G nc, .slice ma M mc, .slice oa O oc, .slice fa K fc] 26)).mono HBx.out.size)))
        have he4 : erA (lessA ⟨sa, sn, sc, na, G, nc, ma, M, mc, oa, O, oc, fa, K, fc, S, L, Z, Mu, No, FL, FZ⟩) s m = 0 := (erA_of (lessA_chk HCH.out)).trans HWC.out
        rw [he4] at C4
        refine C4.mono ?_
        rintro e w13 ⟨ub, rfl, hu⟩
        have hux : ub = true → xb = true := fun h => hXA.out.2 (lessA_acc ((hu.out.2.1 rfl).1 h))
        have HBf := hid ((HBx.out.trans ((box_below w11 (.cells #[.slice sa (sn / 2) sc, .slice na G nc, .slice ma M mc, .slice oa O oc, .slice fa K fc] 26)).mono HBx.out.size)).trans (hu.out.2.2.mono (by have := HBx.out.size; simp; omega)))
        clear hu C4 he4
        cases xb
        · have hub : ub = false := by
            cases ub
            · rfl
            · exact absurd (hux rfl) (by decide)
          subst hub
          go_wp2
          go_ret
          exact ⟨rfl, HBf.out⟩
        · go_wp2
          go_ret
          exact ⟨rfl, HBf.out⟩
      · go_wp2_with fail
        have C4 := accepts_b (lessA ⟨sa, sn, sc, na, G, nc, ma, M, mc, oa, O, oc, fa, K, fc, S, L, Z, Mu, No, FL, FZ⟩) wsa s wsc wla m wlc S' L' (w11.alloc (.cells #[.slice sa (sn / 2) sc, .slice na G nc, .slice ma M mc, .slice oa O oc, .slice fa K fc] 26)) (lessA_aw (H.out.below (HBx.out.trans ((box_below w11 (.cells #[.slice sa (sn / 2) sc, .slice na G nc, .slice ma M mc, .slice oa O oc, .slice fa K fc] 26)).mono HBx.out.size)))) (HW.out.below (HBx.out.trans ((box_below w11 (.cells #[.slice sa (sn / 2) sc, .slice na G nc, .slice ma M mc, .slice oa O oc, .slice fa K fc] 26)).mono HBx.out.size))) (HTz.out _ (HBx.out.trans ((box_below w11 (.cells #[.slice sa (sn / 2) sc, .slice na G nc, .slice ma M mc, .slice oa O oc, .slice fa K fc] 26)).mono HBx.out.size)))
        have he4 : erA (lessA ⟨sa, sn, sc, na, G, nc, ma, M, mc, oa, O, oc, fa, K, fc, S, L, Z, Mu, No, FL, FZ⟩) s m = 0 := (erA_of (lessA_chk HCH.out)).trans HWC.out
        rw [he4] at C4
        refine C4.mono ?_
        rintro e w13 ⟨ub, rfl, hu⟩
        have HBf := hid ((HBx.out.trans ((box_below w11 (.cells #[.slice sa (sn / 2) sc, .slice na G nc, .slice ma M mc, .slice oa O oc, .slice fa K fc] 26)).mono HBx.out.size)).trans (hu.out.2.2.mono (by have := HBx.out.size; simp; omega)))
        clear hu C4 he4
        go_wp2
        go_ret
        exact ⟨rfl, HBf.out⟩
  · have hne : (er != 0) = true := by simp [h0]
    have hxf := hx.out.1 h0
    subst hxf
    go_wp2
    go_ret
    exact ⟨rfl, HB3.out⟩

end Go.Proofs.YtdncjikmknkkpaaDoor

namespace Go.Proofs.YtdncjikmknkkpaaDoor
open Go.RowKit Go.Shelf

abbrev nilA : Ax := ⟨none, 0, 0, none, 0, 0, none, 0, 0, none, 0, 0, none, 0, 0, fun _ => 0, fun _ => 0, fun _ _ => 0, fun _ => 0, fun _ => 0, fun _ => 0, fun _ _ => 0⟩

theorem aw_of_si {w' : World} {A : Ax} {w : World} (h : Aw w A) (h0 : chkA A = 0) {k base g : Nat} {sa na ma oa ga : Option Addr} {sc nc mc oc gc : Nat} {V : List Value} (hk : (sgL A k).length = k) (hk2 : k ≤ 2048)
    (h1 : w'.ownsRow base 3 1 (.slice sa (cs ((sgS A).map fun p => ix p (sgL A k))).length sc) (cs ((sgS A).map fun p => ix p (sgL A k))).length (vals (cs ((sgS A).map fun p => ix p (sgL A k)))))
    (h2 : Rws2 w' base (.slice na k nc) k (fun i => (sgX A (nAt (sgL A k) i)).map fun p => ix p (sgL A k)) V)
    (h3 : w'.ownsRow base 51 1 (.slice ma k mc) k (vu (fun i => A.Mu (nAt (sgL A k) i).1) k)) (h4 : w'.ownsRow base 51 1 (.slice oa k oc) k (vu (fun i => A.No (nAt (sgL A k) i).1) k))
    (h5 : w'.cell? ⟨g, 0, none⟩ = some (.slice ga (cs (whN (fun i => sgF A (nAt (sgL A k) i)) k)).length gc)) (h6 : w'.ownsRow base 3 1 (.slice ga (cs (whN (fun i => sgF A (nAt (sgL A k) i)) k)).length gc) (cs (whN (fun i => sgF A (nAt (sgL A k) i)) k)).length (vals (cs (whN (fun i => sgF A (nAt (sgL A k) i)) k)))) :
    Aw w' { sgC A k with sa := sa, sc := sc, na := na, nc := nc, ma := ma, mc := mc, oa := oa, oc := oc, fa := some ⟨g, 0, none⟩, fc := 1 } := by
  have hrow : ∀ {b : Nat} {a : Option Addr} {c : Nat} {l : List Nat}, w'.ownsRow b 3 1 (.slice a (cs l).length c) (cs l).length (vals (cs l)) → Row w' a l.length (fun i => ((l.getD i 0 : Nat) : Int)) := fun {b a c l} hh => by
    obtain ⟨a2, c2, e, b2, o2, r1, r2⟩ := owns_row hh
    cases e
    rw [cs_len] at r1 r2
    exact ⟨b2, o2, r1, fun i hi => by have := r2 i hi; simp only [cs_at] at this; exact this⟩
  have hall := sgL_all h0 k
  obtain ⟨hG, hK, hM, hO, _⟩ := chkA_ok h0
  have hlenX : ∀ p, (sgX A p).length ≤ 2048 := fun p => by unfold sgX sNx; rw [List.length_map]; exact aNx_len h0 _
  have hp : ∀ i, i < k → (nAt (sgL A k) i).1 < A.G := fun i hi => (hall _ (nAt_mem (by omega))).1
  refine ⟨?_, ?_, ?_, ?_, ?_, ?_, by show k ≤ _; omega, fun r _ => ?_, by show k ≤ _; omega, by show k ≤ _; omega, by show 1 ≤ _; omega, fun r _ => ?_, fun i hi => h.mu _ ?_, fun i hi => h.no _ ?_⟩
  · have := hrow h1
    rw [List.length_map] at this
    exact this
  · have htop := h2.top
    refine ⟨(match na with | some a => a.block | none => 0), 0, fun hh => ?_, fun r hr => ?_⟩
    · rcases htop.2 with ⟨e, hz⟩ | ⟨g2, cap, cur, e, _⟩
      · have : 0 < k := hh; omega
      · cases e; rfl
    · have hr' : r < k := hr
      obtain ⟨v, e1, e2⟩ := h2.row r hr'
      obtain ⟨a, c, rfl, _⟩ := owns_row e2
      refine ⟨a, c, ?_, ?_⟩
      · rcases htop.2 with ⟨e, hz⟩ | ⟨g2, cap, cur, e, _⟩
        · have : k = 0 := hz; omega
        · cases e
          have := htop.cells (g := g2) rfl r _ e1
          rw [Addr.add_mid, Nat.zero_add] at this
          rw [Nat.zero_add, this]
          show _ = some (Value.slice a (sgX A (nAt (sgL A k) r)).length c)
          rw [cs_len, List.length_map]
      · have := hrow e2
        rw [List.length_map] at this
        exact this
  · obtain ⟨a, c, e, hr⟩ := owns_rowU h3
    cases e
    exact hr
  · obtain ⟨a, c, e, hr⟩ := owns_rowU h4
    cases e
    exact hr
  · refine ⟨g, 0, fun _ => rfl, fun r hr => ?_⟩
    obtain rfl : r = 0 := by have : r < 1 := hr; omega
    rw [Nat.zero_add, h5]
    exact ⟨ga, gc, by rw [cs_len]; rfl, hrow h6⟩
  · show (sgS A).length ≤ _
    unfold sgS
    rw [List.length_map]
    have := aSt_len h0
    omega
  · show (sgX A (nAt (sgL A k) r)).length ≤ _
    have := hlenX (nAt (sgL A k) r)
    omega
  · show (whN (fun i => sgF A (nAt (sgL A k) i)) k).length ≤ _
    have := whN_len (fun i => sgF A (nAt (sgL A k) i)) k
    omega
  · have := hp i hi; omega
  · have := hp i hi; omega

/-- What Single answers, as an automaton in memory. -/
theorem single_c (A : Ax) (w : World) (h : Aw w A) : Calls Tryd.prog 17 #[.agg #[.slice A.sa A.sn A.sc, .slice A.na A.G A.nc, .slice A.ma A.M A.mc, .slice A.oa A.O A.oc, .slice A.fa A.K A.fc]] w fun e w' => ∃ (C : Ax) (er : Int), e = .returned (.tuple #[.agg #[.slice C.sa C.sn C.sc, .slice C.na C.G C.nc, .slice C.ma C.M C.mc, .slice C.oa C.O C.oc, .slice C.fa C.K C.fc], .int .i64 er]) ∧
    Hid (Below w.heap.size w w' ∧ (er ≠ 0 → C.G = 0) ∧ (er = 0 → chkA A = 0 ∧ chkA C = 0 ∧ C.K = 1 ∧ Aw w' C ∧ ∀ o, (autA C).Acc o ↔ (autA A).Acc o)) := by
  refine (single_any A w h).mono ?_
  rintro e w' (⟨h0, rfl, hb⟩ | ⟨h0, h1, rfl, hb⟩ | ⟨h0, k, sv, nv, mv, ov, gv, g, V, hk, hk2, rfl, hb, r1, r2, r3, r4, hg, r5, r6⟩)
  · exact ⟨nilA, chkA A, rfl, hid ⟨hb, fun _ => rfl, fun e => absurd e h0⟩⟩
  · exact ⟨nilA, 2, rfl, hid ⟨hb, fun _ => rfl, fun e => by cases e⟩⟩
  · obtain ⟨sa, sc, rfl⟩ := owns_sl r1
    obtain ⟨na, nc, rfl⟩ := owns_sl r2.top
    obtain ⟨ma, mc, rfl⟩ := owns_sl r3
    obtain ⟨oa, oc, rfl⟩ := owns_sl r4
    obtain ⟨ga, gc, rfl⟩ := owns_sl r6
    refine ⟨{ sgC A k with sa := sa, sc := sc, na := na, nc := nc, ma := ma, mc := mc, oa := oa, oc := oc, fa := some ⟨g, 0, none⟩, fc := 1 }, 0, ?_, hid ⟨hb, fun e => absurd rfl e, fun _ => ⟨h0, sg_chk hk hk2, rfl, aw_of_si h h0 hk hk2 r1 r2 r3 r4 r5 r6, fun o => sg_acc h0 hk o⟩⟩⟩
    rw [cs_len, List.length_map]
    rfl

theorem box5 (w : World) (C : Ax) : ∃ W, w.alloc (.cells #[.slice C.sa C.sn C.sc, .slice C.na C.G C.nc, .slice C.ma C.M C.mc, .slice C.oa C.O C.oc, .slice C.fa C.K C.fc] 26) = W ∧ Below w.heap.size w W ∧ Bo W w.heap.size C :=
  ⟨_, rfl, box_below _ _, ⟨cell_of_alloc rfl, cell_of_alloc rfl, cell_of_alloc rfl, cell_of_alloc rfl, cell_of_alloc rfl⟩⟩

set_option maxRecDepth 100000 in
set_option maxHeartbeats 4000000 in
theorem autoOne_walk (A : Ax) (wsa : Option Addr) (s wsc : Nat) (wla : Option Addr) (m wlc : Nat) (S' L' : Nat → Int) (w : World) (h : Aw w A) (hw : Wd w wsa s wla m S' L') (hT : Tb w) :
    Calls Tryd.prog 6 #[A.val, .agg #[.slice wsa s wsc, .slice wla m wlc]] w fun e w' => e = .returned (.bool true) ∧ Below w.heap.size w w' := by
  show Calls Tryd.prog 6 #[.agg #[.slice A.sa A.sn A.sc, .slice A.na A.G A.nc, .slice A.ma A.M A.mc, .slice A.oa A.O A.oc, .slice A.fa A.K A.fc], .agg #[.slice wsa s wsc, .slice wla m wlc]] w _
  obtain ⟨W1, hW1, hb1, hs1, hbo, hc0, hc1⟩ := ac_world w A wsa s wsc wla m wlc
  have HTz : Hid (∀ z, Below w.heap.size w z → Tb z) := hid (fun z hz j hj => below_cell hz (Nat.le_refl _) (hT j hj))
  have CE := hid (ever_any W1 (HTz.out _ hb1))
  have C17 := hid (fun (z : World) (hz : Below w.heap.size w z) => single_c A z (h.below hz))
  have CA : Hid (∀ (C : Ax) (z : World), Aw z C → Below w.heap.size w z → Calls Tryd.prog 9 #[.agg #[.slice C.sa C.sn C.sc, .slice C.na C.G C.nc, .slice C.ma C.M C.mc, .slice C.oa C.O C.oc, .slice C.fa C.K C.fc], .agg #[.slice wsa s wsc, .slice wla m wlc]] z fun e w' => ∃ b, e = .returned (.tuple #[.bool b, .int .i64 (erA C s m)]) ∧ Hid ((erA C s m ≠ 0 → b = false) ∧ (erA C s m = 0 → (b = true ↔ (autA C).Acc (ltr s m S' L'))) ∧ Below z.heap.size z w')) := hid (fun C z hC hz => accepts_b C wsa s wsc wla m wlc S' L' z hC (hw.below hz) (HTz.out z hz))
  have H := hid h
  have HB1 := hid (And.intro hb1 (And.intro hbo (And.intro hc0 hc1)))
  obtain ⟨q0, q1, q2, q3, q4⟩ := hbo
  clear h hw hT hb1
  go_enter Tryd.func6, Tryd.ntmps6
  go_wp2_with fail
  refine CE.out.mono ?_
  rintro e w2 ⟨rfl, hb2⟩
  have HB2 := hid (HB1.out.1.trans (hb2.mono HB1.out.1.size))
  obtain ⟨p0, p1, p2, p3, p4⟩ := HB1.out.2.1.below hb2
  have HBO2 := hid (HB1.out.2.1.below hb2)
  have d0 := below_cell hb2 (Nat.le_refl _) hc0
  have d1 := below_cell hb2 (Nat.le_refl _) hc1
  clear hb2 q0 q1 q2 q3 q4 hc0 hc1 hs1 CE
  go_wp2_with fail
  refine (C17.out w2 HB2.out).mono ?_
  rintro e w3 ⟨C, er, rfl, HC⟩
  obtain ⟨W4, hW4, hb4, hbo4⟩ := box5 w3 C
  have HB3 : Hid (Below w2.heap.size w2 W4) := hid (HC.out.1.trans (hb4.mono HC.out.1.size))
  have HB4 : Hid (Below w.heap.size w W4) := hid (HB2.out.trans (HB3.out.mono HB2.out.size))
  obtain ⟨r0, r1, r2, r3, r4⟩ := HBO2.out.below HB3.out
  have e0 := below_cell HB3.out (Nat.le_refl _) d0
  have e1 := below_cell HB3.out (Nat.le_refl _) d1
  have C9 := hid (CA.out A W4 (H.out.below HB4.out) HB4.out)
  obtain ⟨ea, hea⟩ : ∃ ea, erA A s m = ea := ⟨_, rfl⟩
  rw [hea] at C9
  have HEA := hid hea
  have HBO4 := hid hbo4
  have HB43 := hid hb4
  clear d0 d1 p0 p1 p2 p3 p4 hea hbo4 hb4 C17
  go_wp2_with fail
  refine C9.out.mono ?_
  rintro e w5 ⟨x, rfl, HX⟩
  have hb5 := HX.out.2.2
  obtain ⟨c0, c1, c2, c3, c4⟩ := HBO4.out.below hb5
  have g0 := below_cell hb5 (Nat.le_refl _) e0
  have g1 := below_cell hb5 (Nat.le_refl _) e1
  have HB5 := hid (HB4.out.trans (hb5.mono HB4.out.size))
  have HB54 := hid hb5
  clear hb5 r0 r1 r2 r3 r4 e0 e1 C9
  by_cases h1 : er = 0
  · have hh := HC.out.2.2 h1
    have t1 : (er != 0) = false := by simp [h1]
    have t2 : (er == 0) = true := by simp [h1]
    by_cases h2 : ea = 0
    · have t3 : (ea != 0) = false := by simp [h2]
      have t4 : (C.K : Int) = 1 := by rw [hh.2.2.1]; rfl
      have hC5 : Aw w5 C := (hh.2.2.2.1.below HB43.out).below HB54.out
      have D9 := hid (CA.out C w5 hC5 HB5.out)
      have hec : erA C s m = 0 := by
        rw [erA_of hh.2.1]
        have := HEA.out
        rw [erA_of hh.1, h2] at this
        exact this
      have hx := HX.out.2.1
      rw [hec] at D9
      have HHH := hid (And.intro h2 (And.intro hh.2.2.2.2 HEA.out))
      clear h1 h2 hh hec hx
      have HK := hid t4
      clear t4
      go_wp2_with fail
      refine D9.out.mono ?_
      rintro e w6 ⟨z, rfl, HZ⟩
      have hb6 := HZ.out.2.2
      obtain ⟨k0, k1, k2, k3, k4⟩ := (HBO4.out.below HB54.out).below hb6
      have HB6 := hid (HB5.out.trans (hb6.mono HB5.out.size))
      have t5 : (z == x) = true := by
        have y1 := HZ.out.2.1 trivial
        have y2 := HX.out.2.1 HHH.out.1
        rw [beq_iff_eq, Bool.eq_iff_iff]
        exact y1.trans ((HHH.out.2.1 _).trans y2.symm)
      have t6 : ((C.K : Int) == 1) = true := by rw [HK.out]; rfl
      clear hb6 c0 c1 c2 c3 c4
      go_wp2
      go_ret
      exact ⟨rfl, HB6.out⟩
    · have t3 : (ea != 0) = true := by simp [h2]
      clear h1 h2 hh
      go_wp2
      go_ret
      exact ⟨rfl, HB5.out⟩
  · have hG := HC.out.2.1 h1
    have t1 : (er != 0) = true := by simp [h1]
    have t2 : (er == 0) = false := by simp [h1]
    have t3 : ((C.G : Int) == 0) = true := by rw [hG]; rfl
    clear h1 hG
    go_wp2
    go_ret
    exact ⟨rfl, HB5.out⟩

end Go.Proofs.YtdncjikmknkkpaaDoor
