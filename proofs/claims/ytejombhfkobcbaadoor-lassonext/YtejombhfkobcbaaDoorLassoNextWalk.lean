/- The law LassoNext, walked. -/
import Derived.Test.YtejombhfkobcbaaDoorNxt
namespace Go.Proofs.YtejombhfkobcbaaDoor
open Go.RowKit

theorem RowU.apart {w : World} {a : Option Addr} {n b : Nat} {Z : Nat → Int} {p q : Option Addr} {i j k l : Nat} {t : TypeId} (h : RowU w a n Z) (hn : 0 < n) (hb : w.heap[b]? = some (.cells #[.slice p i j, .slice q k l] t (0, 0))) : ∀ z, a = some z → z.block ≠ b := by
  rintro z rfl
  obtain ⟨c, o, h1, h2⟩ := h
  obtain rfl := Option.some.inj (h1 hn)
  rintro rfl
  have h3 := h2 0 hn
  simp only [World.cell?, hb, Nat.add_zero] at h3
  match o, h3 with
  | 0, h3 => simp at h3
  | 1, h3 => simp at h3
  | o + 2, h3 => simp at h3

set_option maxHeartbeats 4000000 in
theorem next_bad {w : World} {t : Fml} {a : Option Addr} {cap : Nat} {sa : Option Addr} {s sc : Nat} {la : Option Addr} {m lc : Nat} {S L : Nat → Int} (h : Fw w t a sa s sc la m lc S L) (hq : hchk (on 7 t) s m ≠ 0) :
    Calls Tryd.prog 6 #[.agg #[.int .i64 t.kind, .int .i64 t.num, .slice a t.cnt cap], .agg #[.slice sa s sc, .slice la m lc]] w fun e w' => e = .returned (.bool true) ∧ Below w.heap.size w w' := by
  obtain ⟨u, hu⟩ : ∃ y, y = (w.alloc (.cells #[.int .i64 t.kind, .int .i64 t.num, .slice a t.cnt cap] 24)).alloc (.cells #[.slice sa s sc, .slice la m lc] 27) := ⟨_, rfl⟩
  have hB : Below w.heap.size w u := by rw [hu]; exact below_alloc2 _ _ _
  have hx : Fx u w.heap.size t a cap sa s sc la m lc := by rw [hu]; exact fx_new _ _ _ _ _ _ _ _ _ _
  have HX : Hid (∀ z, Below u.heap.size u z → Fx z w.heap.size t a cap sa s sc la m lc ∧ Below w.heap.size w z ∧ Fw z t a sa s sc la m lc S L) := fun z hz => ⟨hx.below hz, hB.trans (hz.mono hB.size), (h.below hB).below hz⟩
  have C1 := hid (now_any u (h.below hB).kc)
  have hcnt := h.cnt
  have HU := hid hu
  obtain ⟨q, hqe⟩ : ∃ y, y = hchk (on 7 t) s m := ⟨_, rfl⟩
  have HQ : Hid (hchk (on 7 t) s m = q ∧ hchk (on 7 t) s m ≠ 0) := ⟨hqe.symm, hq⟩
  have hqb : (q == 0) = false := by rw [hqe]; exact beq_eq_false_iff_ne.2 hq
  have hqn : ¬ q = 0 := by rw [hqe]; exact hq
  have hqm : (q != 0) = true := by rw [bne, hqb]; rfl
  clear hqe hq hu hB hx h
  go_enter Tryd.func6, Tryd.ntmps6
  go_wp2_with fail
  rw [← HU.out]
  refine C1.out.mono ?_
  rintro e z ⟨rfl, hb⟩
  have HZ : Hid (Below u.heap.size u z) := hb
  clear hb C1 HU
  obtain ⟨⟨f0, f1, f2, g0, g1⟩, hbw, hfw⟩ := HX.out z HZ.out
  have HBW := hid hbw
  have HFW := hid hfw
  clear hbw hfw
  have C2 : Hid (∀ y, Below z.heap.size z y → Calls Tryd.prog 21 #[.int .i64 7, .agg #[.int .i64 t.kind, .int .i64 t.num, .slice a t.cnt cap]] y fun e w' => Mk y (on 7 t) e w') := fun y hy => one_f 7 t a cap y (HFW.out.kds.below hy) hcnt
  obtain ⟨t7, ht7⟩ : ∃ y, y = on 7 t := ⟨_, rfl⟩
  have HT7 := hid ht7
  rw [← ht7] at C2 HQ
  have HN7 : Hid (t7.cnt ≤ 9223372036854775807) := by rw [ht7]; exact hid (show 1 ≤ 9223372036854775807 by decide)
  clear ht7
  have C3 : Hid (∀ y ay cy, Below z.heap.size z y → Kds y t7 ay → Calls Tryd.prog 12 #[.agg #[.int .i64 t7.kind, .int .i64 t7.num, .slice ay t7.cnt cy], .agg #[.slice sa s sc, .slice la m lc]] y fun e w' => e = .returned (.tuple #[.slice none 0 0, .int .i64 q]) ∧ Below y.heap.size y w') := fun y ay cy hy hK => by
    have := holdsF_bad (cap := cy) (show Fw y t7 ay sa s sc la m lc S L from ⟨(HFW.out.below hy).kc, hK, HN7.out, (HFW.out.below hy).wd, HFW.out.sn, HFW.out.ln⟩) HQ.out.2
    rw [HQ.out.1] at this
    exact this
  go_wp2
  go_region_held3 (fun y => y.cell? ⟨w.heap.size, 0, none⟩ = some (.int .i64 t.kind) ∧ y.cell? ⟨w.heap.size, 1, none⟩ = some (.int .i64 t.num) ∧ y.cell? ⟨w.heap.size, 2, none⟩ = some (.slice a t.cnt cap) ∧ y.cell? ⟨w.heap.size + 1, 0, none⟩ = some (.slice sa s sc) ∧ y.cell? ⟨w.heap.size + 1, 1, none⟩ = some (.slice la m lc)) (first | go_keep)
    (first | (go_at_call 21; refine (C2.out _ ?_).mono ?_; (exact below_drewN (Below.refl _ _) 1); rintro e w3 ⟨a3, c3, rfl, hk3, hb3⟩; have hb3' := below_of_drew hb3; have pf0 := below_cell hb3' (Nat.le_refl _) f0; have pf1 := below_cell hb3' (Nat.le_refl _) f1; have pf2 := below_cell hb3' (Nat.le_refl _) f2; have pg0 := below_cell hb3' (Nat.le_refl _) g0; have pg1 := below_cell hb3' (Nat.le_refl _) g1) | (go_at_call 12; refine (C3.out _ _ _ ?_ ?_).mono ?_; (exact hb3'); (exact hk3); rintro e w4 ⟨rfl, hb4⟩; have qf0 := below_cell hb4 (Nat.le_refl _) pf0; have qf1 := below_cell hb4 (Nat.le_refl _) pf1; have qf2 := below_cell hb4 (Nat.le_refl _) pf2; have qg0 := below_cell hb4 (Nat.le_refl _) pg0; have qg1 := below_cell hb4 (Nat.le_refl _) pg1) | fail)
  have H4 := hid (HBW.out.trans ((hb3'.trans (hb4.mono hb3'.size)).mono HBW.out.size))
  clear hb3 hb3' hb4 hk3 pf0 pf1 pf2 pg0 pg1 qf0 qf1 qf2 qg0 qg1 C2 C3
  go_wp2
  go_ret
  exact ⟨by first | rfl | simp, H4.out⟩

set_option maxHeartbeats 4000000 in
theorem next_ok {w : World} {t : Fml} {a : Option Addr} {cap : Nat} {sa : Option Addr} {s sc : Nat} {la : Option Addr} {m lc : Nat} {S L : Nat → Int} (h : Fw w t a sa s sc la m lc S L) (hsc : s ≤ sc) (hq : hchk (on 7 t) s m = 0) (hs : 0 < s) :
    Calls Tryd.prog 6 #[.agg #[.int .i64 t.kind, .int .i64 t.num, .slice a t.cnt cap], .agg #[.slice sa s sc, .slice la m lc]] w fun e w' => e = .returned (.bool true) ∧ Below w.heap.size w w' := by
  obtain ⟨u, hu⟩ : ∃ y, y = (w.alloc (.cells #[.int .i64 t.kind, .int .i64 t.num, .slice a t.cnt cap] 24)).alloc (.cells #[.slice sa s sc, .slice la m lc] 27) := ⟨_, rfl⟩
  have hB : Below w.heap.size w u := by rw [hu]; exact below_alloc2 _ _ _
  have hx : Fx u w.heap.size t a cap sa s sc la m lc := by rw [hu]; exact fx_new _ _ _ _ _ _ _ _ _ _
  have HX : Hid (∀ z, Below u.heap.size u z → Fx z w.heap.size t a cap sa s sc la m lc ∧ Below w.heap.size w z ∧ Fw z t a sa s sc la m lc S L) := fun z hz => ⟨hx.below hz, hB.trans (hz.mono hB.size), (h.below hB).below hz⟩
  have C1 := hid (now_any u (h.below hB).kc)
  have hcnt := h.cnt
  have HU := hid hu
  have hch : (chk (on 7 t) 1 0).1 = 0 ∧ wchk s m = 0 := by
    unfold hchk at hq
    by_cases hc : (chk (on 7 t) 1 0).1 = 0
    · rw [if_neg (by rw [hc]; decide)] at hq
      exact ⟨hc, hq⟩
    · rw [if_pos hc] at hq
      exact absurd hq hc
  obtain ⟨h60, hm⟩ := wchk_ok hch.2
  have HCF := hid (chk_of_on hch.1)
  have HQ : Hid (hchk (on 7 t) s m = 0) := hq
  clear hq hch hu hB hx h
  obtain ⟨n, hn⟩ : ∃ y, y = s + m := ⟨_, rfl⟩
  obtain ⟨F, hF⟩ : ∃ y, y = hb n (atm s m S L) (on 7 t) := ⟨_, rfl⟩
  have HN := hid hn
  have HFn0 := hid hF
  have hnp : 0 < n := by omega
  have hnz : ((n : Int) == 0) = false := beq_eq_false_iff_ne.2 (by omega)
  have hn0 : ¬ n = 0 := by omega
  clear hn hF
  go_enter Tryd.func6, Tryd.ntmps6
  go_wp2_with fail
  rw [← HU.out]
  refine C1.out.mono ?_
  rintro e z ⟨rfl, hb⟩
  have HZ : Hid (Below u.heap.size u z) := hb
  clear hb C1 HU
  obtain ⟨⟨f0, f1, f2, g0, g1⟩, hbw, hfw⟩ := HX.out z HZ.out
  have HBW := hid hbw
  have HFW := hid hfw
  clear hbw hfw
  have C2 : Hid (∀ y, Below z.heap.size z y → Calls Tryd.prog 21 #[.int .i64 7, .agg #[.int .i64 t.kind, .int .i64 t.num, .slice a t.cnt cap]] y fun e w' => Mk y (on 7 t) e w') := fun y hy => one_f 7 t a cap y (HFW.out.kds.below hy) hcnt
  obtain ⟨t7, ht7⟩ : ∃ y, y = on 7 t := ⟨_, rfl⟩
  have HT7 := hid ht7
  rw [← ht7] at C2 HQ
  have HN7 : Hid (t7.cnt ≤ 9223372036854775807) := by rw [ht7]; exact hid (show 1 ≤ 9223372036854775807 by decide)
  clear ht7
  have HFn : Hid (F = hb n (atm s m S L) t7) := by rw [HT7.out]; exact HFn0.out
  have C3 : Hid (∀ y ay cy, Below z.heap.size z y → Kds y t7 ay → Calls Tryd.prog 12 #[.agg #[.int .i64 t7.kind, .int .i64 t7.num, .slice ay t7.cnt cy], .agg #[.slice sa s sc, .slice la m lc]] y fun e w' => ∃ b, e = .returned (.tuple #[.slice (some ⟨b, 0, none⟩) n n, .int .i64 0]) ∧ y.heap.size ≤ b ∧ w'.rowIs b 4 n (fun p => .bool (F p)) ∧ Below y.heap.size y w') := fun y ay cy hy hK => by
    have := holdsF_ok (cap := cy) (show Fw y t7 ay sa s sc la m lc S L from ⟨(HFW.out.below hy).kc, hK, HN7.out, (HFW.out.below hy).wd, HFW.out.sn, HFW.out.ln⟩) HQ.out
    rw [← HN.out, ← HFn.out] at this
    exact this
  go_wp2
  go_region_held3 (fun y => y.cell? ⟨w.heap.size, 0, none⟩ = some (.int .i64 t.kind) ∧ y.cell? ⟨w.heap.size, 1, none⟩ = some (.int .i64 t.num) ∧ y.cell? ⟨w.heap.size, 2, none⟩ = some (.slice a t.cnt cap) ∧ y.cell? ⟨w.heap.size + 1, 0, none⟩ = some (.slice sa s sc) ∧ y.cell? ⟨w.heap.size + 1, 1, none⟩ = some (.slice la m lc)) (first | go_keep)
    (first | (go_at_call 21; refine (C2.out _ ?_).mono ?_; (exact below_drewN (Below.refl _ _) 1); rintro e w3 ⟨a3, c3, rfl, hk3, hb3⟩; have hb3' := below_of_drew hb3; have pf0 := below_cell hb3' (Nat.le_refl _) f0; have pf1 := below_cell hb3' (Nat.le_refl _) f1; have pf2 := below_cell hb3' (Nat.le_refl _) f2; have pg0 := below_cell hb3' (Nat.le_refl _) g0; have pg1 := below_cell hb3' (Nat.le_refl _) g1) | (go_at_call 12; refine (C3.out _ _ _ ?_ ?_).mono ?_; (exact hb3'); (exact hk3); rintro e w4 ⟨b4, rfl, hb40, hr4, hb4⟩; have qf0 := below_cell hb4 (Nat.le_refl _) pf0; have qf1 := below_cell hb4 (Nat.le_refl _) pf1; have qf2 := below_cell hb4 (Nat.le_refl _) pf2; have qg0 := below_cell hb4 (Nat.le_refl _) pg0; have qg1 := below_cell hb4 (Nat.le_refl _) pg1) | fail)
  have hb4' := hb3'.trans (hb4.mono hb3'.size)
  have Hw4 : Hid (Below u.heap.size u w4) := HZ.out.trans (hb4'.mono HZ.out.size)
  have HR4 := hid hr4
  clear hb3 hb3' hb4 hb4' hk3 hb40 hr4 pf0 pf1 pf2 pg0 pg1 qf0 qf1 qf2 qg0 qg1 C2 C3 f0 f1 f2 g0 g1 HBW HFW
  obtain ⟨⟨f0, f1, f2, g0, g1⟩, hbw, hfw⟩ := HX.out w4 Hw4.out
  have HBW := hid hbw
  have HFW := hid hfw
  clear hbw hfw
  obtain ⟨s1, rfl⟩ : ∃ s1, s = s1 + 1 := ⟨s - 1, by omega⟩
  obtain ⟨sb, so, hsa, hscell⟩ := HFW.out.wd.stem
  obtain rfl := hsa (by omega)
  obtain ⟨x, hxf, slf⟩ := sl_from_any sb so (s1 + 1) sc 1 (by omega) hsc
  have hsz0 : (((s1 + 1 : Nat) : Int) == 0) = false := beq_eq_false_iff_ne.2 (by omega)
  have hs10 : ¬ (s1 + 1 = 0) := by omega
  have slg : ∀ w, (Instr.slice 25 (.slice (some ⟨sb, so, none⟩) (s1 + 1) sc) (some (.int .i64 1)) none none).run Tryd.prog w = .ok (.slice (some x) s1 (sc - 1)) w := fun w => by have := slf w; simpa using this
  obtain ⟨v, hv⟩ : ∃ y, y = w4.alloc (.cells #[.slice (some x) s1 (sc - 1), .slice la m lc] 27) := ⟨_, rfl⟩
  have hBv : Below w4.heap.size w4 v := by rw [hv]; exact box_below _ _
  have hF5 : Fw v t a (some x) s1 (sc - 1) la m lc (fun i => S (1 + i)) L := by
    have hf := HFW.out.below hBv
    refine ⟨hf.kc, hf.kds, hf.cnt, ⟨?_, hf.wd.loop, by have := hf.wd.s47; omega, hf.wd.m47, fun i hi => hf.wd.su (1 + i) (by omega), hf.wd.lu⟩, fun h => (by cases h), hf.ln⟩
    by_cases h1 : 0 < s1
    · rw [hxf (by omega)]
      have hr : RowU v (some ⟨sb, so + 1, none⟩) (s1 + 1 - 1) (fun i => S (1 + i)) := RowU.drop (n := s1 + 1) (fun i hi => below_cell hBv (Nat.le_refl _) (hscell i hi))
      rw [Nat.add_sub_cancel] at hr
      exact hr
    · exact ⟨0, 0, fun hh => by omega, fun i hi => by omega⟩
  have C5 := hid (truth_any (cap := cap) hF5)
  have hok : hchk t s1 m = 0 := by
    unfold hchk
    rw [if_neg (by rw [HCF.out]; decide)]
    exact wchk_zero (by omega) hm
  obtain ⟨tv, htv⟩ : ∃ y, y = hb (s1 + m) (atm s1 m (fun i => S (1 + i)) L) t 0 := ⟨_, rfl⟩
  have HTV : Hid (F 0 = tv) := by
    rw [HFn0.out, htv, HN.out]
    exact (next_tells hm hm (fun i => ltr_tail i)).symm
  rw [show trV t s1 m (fun i => S (1 + i)) L = (tv, true) by unfold trV; rw [if_pos hok, htv]] at C5
  have HBv := hid hBv
  have HV := hid hv
  clear hF5 htv hok hBv hv slf hxf hscell hsa
  have k1 : w.heap.size < w4.heap.size := World.block_lt_of_cell? _ _ f0
  have k2 : w.heap.size + 1 < w4.heap.size := World.block_lt_of_cell? _ _ g0
  go_wp2_with fail
  rw [← HV.out]
  refine C5.out.mono ?_
  rintro e w6 ⟨rfl, hb6⟩
  have hr6 := rowIs_below (rowIs_below HR4.out HBv.out) hb6
  have c0 : w6.cell? ⟨b4, 0, none⟩ = some (.bool tv) := by rw [hr6.cell hnp, HTV.out]
  have HB6 := hid ((HBW.out.trans (HBv.out.mono HBW.out.size)).trans (hb6.mono (HBW.out.trans (HBv.out.mono HBW.out.size)).size))
  clear hr6 hb6 C5
  go_wp2
  go_ret
  exact ⟨by first | rfl | simp, HB6.out⟩

set_option maxHeartbeats 4000000 in
theorem next_nil {w : World} {t : Fml} {a : Option Addr} {cap : Nat} {sa : Option Addr} {s sc : Nat} {la : Option Addr} {m lc : Nat} {S L : Nat → Int} (h : Fw w t a sa s sc la m lc S L) (hlc : m ≤ lc) (hq : hchk (on 7 t) s m = 0) (hs : s = 0) :
    Calls Tryd.prog 6 #[.agg #[.int .i64 t.kind, .int .i64 t.num, .slice a t.cnt cap], .agg #[.slice sa s sc, .slice la m lc]] w fun e w' => e = .returned (.bool true) ∧ Below w.heap.size w w' := by
  have HS0 := hid hs
  clear hs
  obtain ⟨u, hu⟩ : ∃ y, y = (w.alloc (.cells #[.int .i64 t.kind, .int .i64 t.num, .slice a t.cnt cap] 24)).alloc (.cells #[.slice sa s sc, .slice la m lc] 27) := ⟨_, rfl⟩
  have hB : Below w.heap.size w u := by rw [hu]; exact below_alloc2 _ _ _
  have hx : Fx u w.heap.size t a cap sa s sc la m lc := by rw [hu]; exact fx_new _ _ _ _ _ _ _ _ _ _
  have HX : Hid (∀ z, Below u.heap.size u z → Fx z w.heap.size t a cap sa s sc la m lc ∧ Below w.heap.size w z ∧ Fw z t a sa s sc la m lc S L) := fun z hz => ⟨hx.below hz, hB.trans (hz.mono hB.size), (h.below hB).below hz⟩
  have C1 := hid (now_any u (h.below hB).kc)
  have hcnt := h.cnt
  have HU := hid hu
  have hch : (chk (on 7 t) 1 0).1 = 0 ∧ wchk s m = 0 := by
    unfold hchk at hq
    by_cases hc : (chk (on 7 t) 1 0).1 = 0
    · rw [if_neg (by rw [hc]; decide)] at hq
      exact ⟨hc, hq⟩
    · rw [if_pos hc] at hq
      exact absurd hq hc
  obtain ⟨h60, hm⟩ := wchk_ok hch.2
  have HCF := hid (chk_of_on hch.1)
  have HQ : Hid (hchk (on 7 t) s m = 0) := hq
  clear hq hch hu hB hx h
  obtain ⟨n, hn⟩ : ∃ y, y = s + m := ⟨_, rfl⟩
  obtain ⟨F, hF⟩ : ∃ y, y = hb n (atm s m S L) (on 7 t) := ⟨_, rfl⟩
  have HN := hid hn
  have HFn0 := hid hF
  have hnp : 0 < n := by omega
  have hnz : ((n : Int) == 0) = false := beq_eq_false_iff_ne.2 (by omega)
  have hn0 : ¬ n = 0 := by omega
  clear hn hF
  go_enter Tryd.func6, Tryd.ntmps6
  go_wp2_with fail
  rw [← HU.out]
  refine C1.out.mono ?_
  rintro e z ⟨rfl, hb⟩
  have HZ : Hid (Below u.heap.size u z) := hb
  clear hb C1 HU
  obtain ⟨⟨f0, f1, f2, g0, g1⟩, hbw, hfw⟩ := HX.out z HZ.out
  have HBW := hid hbw
  have HFW := hid hfw
  clear hbw hfw
  have C2 : Hid (∀ y, Below z.heap.size z y → Calls Tryd.prog 21 #[.int .i64 7, .agg #[.int .i64 t.kind, .int .i64 t.num, .slice a t.cnt cap]] y fun e w' => Mk y (on 7 t) e w') := fun y hy => one_f 7 t a cap y (HFW.out.kds.below hy) hcnt
  obtain ⟨t7, ht7⟩ : ∃ y, y = on 7 t := ⟨_, rfl⟩
  have HT7 := hid ht7
  rw [← ht7] at C2 HQ
  have HN7 : Hid (t7.cnt ≤ 9223372036854775807) := by rw [ht7]; exact hid (show 1 ≤ 9223372036854775807 by decide)
  clear ht7
  have HFn : Hid (F = hb n (atm s m S L) t7) := by rw [HT7.out]; exact HFn0.out
  have C3 : Hid (∀ y ay cy, Below z.heap.size z y → Kds y t7 ay → Calls Tryd.prog 12 #[.agg #[.int .i64 t7.kind, .int .i64 t7.num, .slice ay t7.cnt cy], .agg #[.slice sa s sc, .slice la m lc]] y fun e w' => ∃ b, e = .returned (.tuple #[.slice (some ⟨b, 0, none⟩) n n, .int .i64 0]) ∧ y.heap.size ≤ b ∧ w'.rowIs b 4 n (fun p => .bool (F p)) ∧ Below y.heap.size y w') := fun y ay cy hy hK => by
    have := holdsF_ok (cap := cy) (show Fw y t7 ay sa s sc la m lc S L from ⟨(HFW.out.below hy).kc, hK, HN7.out, (HFW.out.below hy).wd, HFW.out.sn, HFW.out.ln⟩) HQ.out
    rw [← HN.out, ← HFn.out] at this
    exact this
  go_wp2
  go_region_held3 (fun y => y.cell? ⟨w.heap.size, 0, none⟩ = some (.int .i64 t.kind) ∧ y.cell? ⟨w.heap.size, 1, none⟩ = some (.int .i64 t.num) ∧ y.cell? ⟨w.heap.size, 2, none⟩ = some (.slice a t.cnt cap) ∧ y.cell? ⟨w.heap.size + 1, 0, none⟩ = some (.slice sa s sc) ∧ y.cell? ⟨w.heap.size + 1, 1, none⟩ = some (.slice la m lc)) (first | go_keep)
    (first | (go_at_call 21; refine (C2.out _ ?_).mono ?_; (exact below_drewN (Below.refl _ _) 1); rintro e w3 ⟨a3, c3, rfl, hk3, hb3⟩; have hb3' := below_of_drew hb3; have pf0 := below_cell hb3' (Nat.le_refl _) f0; have pf1 := below_cell hb3' (Nat.le_refl _) f1; have pf2 := below_cell hb3' (Nat.le_refl _) f2; have pg0 := below_cell hb3' (Nat.le_refl _) g0; have pg1 := below_cell hb3' (Nat.le_refl _) g1) | (go_at_call 12; refine (C3.out _ _ _ ?_ ?_).mono ?_; (exact hb3'); (exact hk3); rintro e w4 ⟨b4, rfl, hb40, hr4, hb4⟩; have qf0 := below_cell hb4 (Nat.le_refl _) pf0; have qf1 := below_cell hb4 (Nat.le_refl _) pf1; have qf2 := below_cell hb4 (Nat.le_refl _) pf2; have qg0 := below_cell hb4 (Nat.le_refl _) pg0; have qg1 := below_cell hb4 (Nat.le_refl _) pg1) | fail)
  have hb4' := hb3'.trans (hb4.mono hb3'.size)
  have Hw4 : Hid (Below u.heap.size u w4) := HZ.out.trans (hb4'.mono HZ.out.size)
  have HR4 := hid hr4
  clear hb3 hb3' hb4 hb4' hk3 hb40 hr4 pf0 pf1 pf2 pg0 pg1 qf0 qf1 qf2 qg0 qg1 C2 C3 f0 f1 f2 g0 g1 HBW HFW
  obtain ⟨⟨f0, f1, f2, g0, g1⟩, hbw, hfw⟩ := HX.out w4 Hw4.out
  have HBW := hid hbw
  have HFW := hid hfw
  clear hbw hfw
  obtain rfl := HS0.out
  have k1 : w.heap.size < w4.heap.size := World.block_lt_of_cell? _ _ f0
  have k2 : w.heap.size + 1 < w4.heap.size := World.block_lt_of_cell? _ _ g0
  obtain ⟨v, hv⟩ : ∃ y, y = w4.alloc (.cells #[.slice sa 0 sc, .slice la m lc] 27) := ⟨_, rfl⟩
  have hBv : Below w4.heap.size w4 v := by rw [hv]; exact box_below _ _
  have xv : v.heap[w4.heap.size]? = some (.cells #[.slice sa 0 sc, .slice la m lc] 27) := by rw [hv]; exact Go.Deep.blk_alloc_new _ _
  have hone : (1 : Int) % (((m + 1 : Nat)) : Int) = ((1 : Nat) : Int) := by
    rw [Int.emod_eq_of_lt (by omega) (by omega)]
    rfl
  have C4 := hid (unrolled_any (sc := sc) (HFW.out.below hBv).wd HFW.out.sn hlc h60 hm 1 (by omega) (by omega) 1 hone (by omega))
  have HBv := hid hBv
  have HXv := hid xv
  have HV := hid hv
  clear hBv xv hv hone
  go_wp2_with fail
  rw [← HV.out]
  refine C4.out.mono ?_
  rintro e w5 ⟨a5, c5, b5, d5, rfl, n1, n2, n3, n4, n5, n6, n7⟩
  obtain ⟨ab, ao, ha5, _⟩ := n5
  obtain rfl := ha5 (by omega)
  obtain ⟨x, _, slf⟩ := sl_from_any ab ao 1 c5 1 (by omega) (by omega)
  have slg : ∀ w, (Instr.slice 25 (.slice (some ⟨ab, ao, none⟩) 1 c5) (some (.int .i64 1)) none none).run Tryd.prog w = .ok (.slice (some x) 0 (c5 - 1)) w := fun w => by have := slf w; simpa using this
  obtain ⟨vb, hvb⟩ : ∃ y, y = w4.heap.size := ⟨_, rfl⟩
  have x5 : w5.heap[vb]? = some (.cells #[.slice sa 0 sc, .slice la m lc] 27) := by rw [hvb]; exact alloc_le n7 HXv.out
  obtain ⟨Y, hY⟩ : ∃ y, y = ((w5.setCell ⟨vb, 0, none⟩ (.slice (some ⟨ab, ao, none⟩) 1 c5)).setCell ⟨vb, 1, none⟩ (.slice b5 m d5)).setCell ⟨vb, 0, none⟩ (.slice (some x) 0 (c5 - 1)) := ⟨_, rfl⟩
  have hbY : But vb w5 Y := by rw [hY]; exact (((But.refl _ _).setCell _ _).setCell _ _).setCell _ _
  have hB4 : Below w4.heap.size w4 w5 := HBv.out.trans (n7.mono HBv.out.size)
  have hBY : Below w4.heap.size w4 Y := hB4.trans (hbY.below (by omega) hB4.size)
  have hF5 : Fw Y t a (some x) 0 (c5 - 1) b5 m d5 S (fun i => L ((1 + i) % m)) := by
    have hf := HFW.out.below hBY
    exact ⟨hf.kc, hf.kds, hf.cnt, ⟨⟨0, 0, fun hh => by omega, fun i hi => by omega⟩, n6.but hbY (n6.apart hm x5), by omega, hf.wd.m47, fun i hi => by omega, fun i hi => hf.wd.lu _ (Nat.mod_lt _ hm)⟩, fun h => (by cases h), n2⟩
  have C5 := hid (truth_any (cap := cap) hF5)
  have hok : hchk t 0 m = 0 := by
    unfold hchk
    rw [if_neg (by rw [HCF.out]; decide)]
    exact wchk_zero (by omega) hm
  obtain ⟨tv, htv⟩ : ∃ y, y = hb (0 + m) (atm 0 m S (fun i => L ((1 + i) % m))) t 0 := ⟨_, rfl⟩
  have HTV : Hid (F 0 = tv) := by
    rw [HFn0.out, htv, HN.out]
    exact (next_tells hm hm (fun i => ltr_tail0 hm i)).symm
  rw [show trV t 0 m S (fun i => L ((1 + i) % m)) = (tv, true) by unfold trV; rw [if_pos hok, htv]] at C5
  have y0 := (two_cells x5).1
  have y1 := (two_cells x5).2
  have e0 := fz_of x5 0
  have e1 := fz_of x5 1
  have HBY := hid hBY
  have hFxY := HX.out Y (Hw4.out.trans (hBY.mono Hw4.out.size))
  obtain ⟨⟨p0, p1, p2, _, _⟩, _, _⟩ := hFxY
  have HR5 := hid (rowIs_below HR4.out hBY)
  have HY := hid hY
  have q0 := below_cell hB4 (Nat.le_refl _) f0
  have q1 := below_cell hB4 (Nat.le_refl _) f1
  have q2 := below_cell hB4 (Nat.le_refl _) f2
  have hwv : w.heap.size ≠ vb := by omega
  have HB4 := hid hB4
  rw [← hvb]
  clear hF5 htv hok hY hbY hBY hB4 n1 n2 n3 n4 n6 n7 ha5 C4 x5 slf hvb f0 f1 f2
  go_wp2_with fail
  rw [← HY.out]
  refine C5.out.mono ?_
  rintro e w6 ⟨rfl, hb6⟩
  have hr6 := rowIs_below HR5.out hb6
  have c0 : w6.cell? ⟨b4, 0, none⟩ = some (.bool tv) := by rw [hr6.cell hnp, HTV.out]
  have HB6 := hid ((HBW.out.trans (HBY.out.mono HBW.out.size)).trans (hb6.mono (HBW.out.trans (HBY.out.mono HBW.out.size)).size))
  clear hr6 hb6 C5
  go_wp2
  go_ret
  exact ⟨by first | rfl | simp, HB6.out⟩

theorem lassoNext_walk {w : World} {t : Fml} {a : Option Addr} {cap : Nat} {sa : Option Addr} {s sc : Nat} {la : Option Addr} {m lc : Nat} {S L : Nat → Int} (h : Fw w t a sa s sc la m lc S L) (hsc : s ≤ sc) (hlc : m ≤ lc) :
    Calls Tryd.prog 6 #[.agg #[.int .i64 t.kind, .int .i64 t.num, .slice a t.cnt cap], .agg #[.slice sa s sc, .slice la m lc]] w fun e w' => e = .returned (.bool true) ∧ Below w.heap.size w w' := by
  by_cases h0 : hchk (on 7 t) s m = 0
  · by_cases hs : s = 0
    · exact next_nil h hlc h0 hs
    · exact next_ok h hsc h0 (by omega)
  · exact next_bad h h0

end Go.Proofs.YtejombhfkobcbaaDoor
