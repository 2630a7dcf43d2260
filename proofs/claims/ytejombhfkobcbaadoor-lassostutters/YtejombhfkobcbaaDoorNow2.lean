/- now: that truth tells what it should at one word. -/
import Derived.Test.YtejombhfkobcbaaDoorMng
namespace Go.Proofs.YtejombhfkobcbaaDoor
open Go.RowKit

theorem now_tr : trV (on 10 (nd 3 1)) 1 1 (fun _ => 1) (fun _ => 2) = (true, true) := by
  unfold trV
  have e : hchk (on 10 (nd 3 1)) 1 1 = 0 := by decide
  rw [if_pos e]
  have h : hb (1 + 1) (atm 1 1 (fun _ => 1) (fun _ => 2)) (on 10 (nd 3 1)) 0 = true := by
    rw [hb_hold (s := 1) (m := 1) (by decide) (atm_per _ _ _ _), hold_finally]
    refine ⟨1, by omega, ?_⟩
    rw [hold_eq]
    simp [holdF, nd, atm, ltr]
  rw [h]

set_option maxHeartbeats 2000000 in
theorem now_any (w : World) (hk : kcAt w) : Calls Tryd.prog 16 #[] w fun e w' => e = .returned (.bool true) ∧ Below w.heap.size w w' := by
  have C1 := hid (atom_f 1 w)
  have C2 : Hid (∀ (z : World) a cap, Kds z (nd 3 1) a → Calls Tryd.prog 21 #[.int .i64 10, .agg #[.int .i64 (nd 3 1).kind, .int .i64 (nd 3 1).num, .slice a (nd 3 1).cnt cap]] z fun e w' => Mk z (on 10 (nd 3 1)) e w') := fun z a cap h => one_f 10 (nd 3 1) a cap z h (by decide)
  have HK := hid hk
  clear hk
  go_enter Tryd.func16, Tryd.ntmps16
  go_wp2_with fail
  refine C1.out.mono ?_
  rintro e w1 ⟨a1, cap1, rfl, hK1, hb1⟩
  have D := hid (C2.out w1 a1 cap1 hK1)
  have HB1 := hid hb1
  clear C1 C2 hK1 hb1
  go_wp2_with fail
  refine D.out.mono ?_
  rintro e w2 ⟨a2, cap2, rfl, hK2, hb2⟩
  have HB2 := hid (HB1.out.trans (hb2.mono HB1.out.size))
  have HK2 := hid hK2
  clear D hK2 hb2 HB1
  obtain ⟨t, ht⟩ : ∃ y, y = on 10 (nd 3 1) := ⟨_, rfl⟩
  have HT := hid ht
  rw [← ht] at HK2 ⊢
  clear ht
  obtain ⟨u, hu⟩ : ∃ y, y = (w2.alloc (.cells #[.int .u64 1] 30)).alloc (.cells #[.int .u64 2] 30) := ⟨_, rfl⟩
  have hBu : Below w2.heap.size w2 u := by rw [hu]; exact below_alloc2 _ _ _
  have hF : Fw u t a2 (some ⟨w2.heap.size, 0, none⟩) 1 1 (some ⟨w2.heap.size + 1, 0, none⟩) 1 1 (fun _ => 1) (fun _ => 2) := by
    have hB := HB2.out.trans (hBu.mono HB2.out.size)
    refine ⟨HK.out.below hB HK.out.pos, HK2.out.below hBu, by rw [HT.out]; decide, ⟨⟨w2.heap.size, 0, fun _ => rfl, fun i hi => ?_⟩, ⟨w2.heap.size + 1, 0, fun _ => rfl, fun i hi => ?_⟩, by decide, by decide, fun i hi => by decide, fun i hi => by decide⟩, fun h => (by cases h), fun h => (by cases h)⟩
    · obtain rfl : i = 0 := by omega
      rw [hu]
      have h1 : (w2.alloc (.cells #[.int .u64 1] 30)).cell? ⟨w2.heap.size, 0 + 0, none⟩ = some (.int .u64 1) := cell_of_alloc rfl
      exact below_cell (box_below _ _) (Nat.le_refl _) h1
    · obtain rfl : i = 0 := by omega
      rw [hu]
      have h1 := cell_of_alloc (w := w2.alloc (.cells #[.int .u64 1] 30)) (c := #[.int .u64 2]) (t := 30) (i := 0) rfl
      rw [show (w2.alloc (.cells #[.int .u64 1] 30)).heap.size = w2.heap.size + 1 by simp] at h1
      exact h1
  have C := hid (truth_any (cap := cap2) hF)
  rw [show trV t 1 1 (fun _ => 1) (fun _ => 2) = (true, true) by rw [HT.out]; exact now_tr] at C
  have HU := hid hu
  have HBu := hid hBu
  clear hu hBu hF HK HK2 HT
  go_wp2_with fail
  rw [← HU.out]
  refine C.out.mono ?_
  rintro e w3 ⟨rfl, hb3⟩
  have HB3 := hid ((HB2.out.trans (HBu.out.mono HB2.out.size)).trans (hb3.mono (HB2.out.trans (HBu.out.mono HB2.out.size)).size))
  clear C hb3
  go_wp2
  go_ret
  exact ⟨rfl, HB3.out⟩

/-- The closure 'same' of LassoLaws: of two formulas that mean the same it tells so. -/
structure Wb (w : World) (wb : Nat) (sa : Option Addr) (s sc : Nat) (la : Option Addr) (m lc : Nat) : Prop where
  g0 : w.cell? ⟨wb, 0, none⟩ = some (.slice sa s sc)
  g1 : w.cell? ⟨wb, 1, none⟩ = some (.slice la m lc)

/-- What all calls of the laws want of the world. -/
structure Wl (w : World) (sa : Option Addr) (s sc : Nat) (la : Option Addr) (m lc : Nat) (S L : Nat → Int) : Prop where
  kc : kcAt w
  wd : Wd w sa s la m S L
  sn : sa = none → s = 0 ∧ sc = 0
  ln : la = none → m = 0 ∧ lc = 0

theorem Wl.below {w w' : World} {sa : Option Addr} {s sc : Nat} {la : Option Addr} {m lc : Nat} {S L : Nat → Int} (h : Wl w sa s sc la m lc S L) (hb : Below w.heap.size w w') : Wl w' sa s sc la m lc S L :=
  ⟨h.kc.below hb h.kc.pos, h.wd.below hb, h.sn, h.ln⟩
theorem Wl.fw {w : World} {sa : Option Addr} {s sc : Nat} {la : Option Addr} {m lc : Nat} {S L : Nat → Int} (h : Wl w sa s sc la m lc S L) {t : Fml} {a : Option Addr} (hk : Kds w t a) (hc : t.cnt ≤ 9223372036854775807) : Fw w t a sa s sc la m lc S L :=
  ⟨h.kc, hk, hc, h.wd, h.sn, h.ln⟩

set_option maxHeartbeats 2000000 in
theorem same_any {w : World} {wb : Nat} {sa : Option Addr} {s sc : Nat} {la : Option Addr} {m lc : Nat} {S L : Nat → Int} {t1 t2 : Fml} {a1 a2 : Option Addr} {c1 c2 : Nat} (hl : Wl w sa s sc la m lc S L) (hw : Wb w wb sa s sc la m lc) (h1 : Kds w t1 a1) (h2 : Kds w t2 a2) (n1 : t1.cnt ≤ 9223372036854775807) (n2 : t2.cnt ≤ 9223372036854775807) (he : ∀ A, hold A t1 0 ↔ hold A t2 0) :
    Calls Tryd.prog 17 #[.agg #[.int .i64 t1.kind, .int .i64 t1.num, .slice a1 t1.cnt c1], .agg #[.int .i64 t2.kind, .int .i64 t2.num, .slice a2 t2.cnt c2], .pointer (some ⟨wb, 0, none⟩)] w fun e w' => e = .returned (.bool true) ∧ Below w.heap.size w w' := by
  obtain ⟨u, hu⟩ : ∃ y, y = (w.alloc (.cells #[.int .i64 t1.kind, .int .i64 t1.num, .slice a1 t1.cnt c1] 24)).alloc (.cells #[.int .i64 t2.kind, .int .i64 t2.num, .slice a2 t2.cnt c2] 24) := ⟨_, rfl⟩
  have hB : Below w.heap.size w u := by rw [hu]; exact below_alloc2 _ _ _
  have e1 : (w.alloc (.cells #[.int .i64 t1.kind, .int .i64 t1.num, .slice a1 t1.cnt c1] 24)).heap.size = w.heap.size + 1 := by simp
  have x2 : u.heap[w.heap.size + 1]? = some (.cells #[.int .i64 t2.kind, .int .i64 t2.num, .slice a2 t2.cnt c2] 24) := by rw [hu]; exact alloc_last _ e1
  have C1 := hid (truth_any (cap := c1) ((hl.below hB).fw (h1.below hB) n1))
  have hg0 := below_cell hB (Nat.le_refl _) hw.g0
  have hg1 := below_cell hB (Nat.le_refl _) hw.g1
  have HG0 := hid hg0
  have HG1 := hid hg1
  have HL := hid (hl.below hB)
  have HK2 := hid (h2.below hB)
  have HX2 := hid x2
  have HS := hid (tr_same (s := s) (m := m) (S := S) (L := L) he)
  have HU := hid hu
  have HB := hid hB
  have k0 : wb < w.heap.size := World.block_lt_of_cell? _ _ hw.g0
  have w0 := hw.g0
  have w1 := hw.g1
  generalize trV t1 s m S L = p at *
  obtain ⟨q, hq⟩ : ∃ y, y = trV t2 s m S L := ⟨_, rfl⟩
  have HQ := hid hq
  rw [← hq] at HS
  clear hu hB e1 x2 hq hl h1 h2 he hw hg0 hg1
  obtain ⟨p1, p2⟩ := p
  go_enter Tryd.func17, Tryd.ntmps17
  go_wp2_with fail
  rw [← HU.out]
  refine C1.out.mono ?_
  rintro e w2 ⟨rfl, hb2⟩
  have f0 : w2.cell? ⟨w.heap.size + 1, 0, none⟩ = some (.int .i64 t2.kind) := below_cell hb2 (Nat.le_refl _) (cell_of_cells HX2.out rfl)
  have f1 : w2.cell? ⟨w.heap.size + 1, 1, none⟩ = some (.int .i64 t2.num) := below_cell hb2 (Nat.le_refl _) (cell_of_cells HX2.out rfl)
  have f2 : w2.cell? ⟨w.heap.size + 1, 2, none⟩ = some (.slice a2 t2.cnt c2) := below_cell hb2 (Nat.le_refl _) (cell_of_cells HX2.out rfl)
  have g0 := below_cell hb2 (Nat.le_refl _) HG0.out
  have g1 := below_cell hb2 (Nat.le_refl _) HG1.out
  have C2 := hid (truth_any (cap := c2) ((HL.out.below hb2).fw (HK2.out.below hb2) n2))
  have HB2 := hid (HB.out.trans (hb2.mono HB.out.size))
  rw [← HQ.out] at C2
  clear C1 hb2 HQ w0 w1
  obtain ⟨q1, q2⟩ := q
  go_wp2_with fail
  refine C2.out.mono ?_
  rintro e w3 ⟨rfl, hb3⟩
  have HB3 := hid (HB2.out.trans (hb3.mono HB2.out.size))
  clear C2 hb3
  cases p2
  · go_wp2
    go_ret
    exact ⟨by first | rfl | simp, HB3.out⟩
  · cases q2
    · go_wp2
      go_ret
      exact ⟨by first | rfl | simp, HB3.out⟩
    · have hpq : p1 = q1 := HS.out rfl rfl
      subst hpq
      go_wp2
      go_ret
      exact ⟨by first | rfl | simp, HB3.out⟩

theorem three_set {w : World} {x : Nat} {u v z : Value} (h : w.heap[x]? = some (.cells #[u, v, z] 24 (0, 0))) (a b c : Value) : (((w.setCell ⟨x, 0, none⟩ a).setCell ⟨x, 1, none⟩ b).setCell ⟨x, 2, none⟩ c).heap[x]? = some (.cells #[a, b, c] 24 (0, 0)) := by
  simp [World.setCell, Array.getElem?_modify, h]

set_option maxHeartbeats 1000000 in
theorem not_f (t : Fml) (a : Option Addr) (cap : Nat) (w : World) (h : Kds w t a) (hc : t.cnt ≤ 9223372036854775807) : Calls Tryd.prog 20 #[.agg #[.int .i64 t.kind, .int .i64 t.num, .slice a t.cnt cap]] w fun e w' => Mk w (on 4 t) e w' := by
  obtain ⟨u, hu⟩ : ∃ y, y = (w.alloc (.cells #[.int .i64 t.kind, .int .i64 t.num, .slice a t.cnt cap] 24)).alloc (.cells #[.int .i64 0, .int .i64 0, .slice none 0 0] 24) := ⟨_, rfl⟩
  have hB : Below w.heap.size w u := by rw [hu]; exact below_alloc2 _ _ _
  have e1 : (w.alloc (.cells #[.int .i64 t.kind, .int .i64 t.num, .slice a t.cnt cap] 24)).heap.size = w.heap.size + 1 := by simp
  have x2 : u.heap[w.heap.size + 1]? = some (.cells #[.int .i64 0, .int .i64 0, .slice none 0 0] 24) := by rw [hu]; exact alloc_last _ e1
  have C := hid (one_g 4 t a cap u)
  have HK := hid h
  have hus : u.heap.size = w.heap.size + 1 + 1 := by rw [hu]; simp
  have HU := hid hu
  have HB := hid hB
  have HX := hid x2
  clear hu hB x2 e1 h
  go_enter Tryd.func20, Tryd.ntmps20
  go_wp2_with fail
  rw [← HU.out]
  refine C.out.mono ?_
  rintro e w2 ⟨rfl, hk2, hb2⟩
  have x3 : w2.heap[w.heap.size + 1]? = some (.cells #[.int .i64 0, .int .i64 0, .slice none 0 0] 24) := (hb2.block _ (Array.getElem?_eq_some_iff.1 HX.out).1).trans HX.out
  have c0 : w2.cell? ⟨w.heap.size + 1, 0, none⟩ = some (.int .i64 0) := cell_of_cells x3 rfl
  have c1 : w2.cell? ⟨w.heap.size + 1, 1, none⟩ = some (.int .i64 0) := cell_of_cells x3 rfl
  have c2 : w2.cell? ⟨w.heap.size + 1, 2, none⟩ = some (.slice none 0 0) := cell_of_cells x3 rfl
  have z : ∀ i, w2.frozen? ⟨w.heap.size + 1, i, none⟩ = false := fun i => by simp [World.frozen?, x3]
  have z0 := z 0
  have z1 := z 1
  have z2 := z 2
  have HX3 := hid x3
  have HK2 := hid hk2
  have HB2 := hid hb2
  have HUS := hid hus
  clear z x3 hk2 hb2 C
  obtain ⟨kb, hkb⟩ : ∃ y, y = u.heap.size + 1 + 1 := ⟨_, rfl⟩
  have HKB := hid hkb
  rw [← hkb] at HK2 ⊢
  clear hkb hus
  go_wp2
  obtain ⟨W, hW⟩ : ∃ y, y = ((w2.setCell ⟨w.heap.size + 1, 0, none⟩ (.int .i64 4)).setCell ⟨w.heap.size + 1, 1, none⟩ (.int .i64 0)).setCell ⟨w.heap.size + 1, 2, none⟩ (.slice (some ⟨kb, 0, none⟩) 1 1) := ⟨_, rfl⟩
  rw [← hW]
  have hbut : But (w.heap.size + 1) w2 W := by rw [hW]; exact (((But.refl _ _).setCell _ _).setCell _ _).setCell _ _
  have hWx : W.heap[w.heap.size + 1]? = some (.cells #[.int .i64 4, .int .i64 0, .slice (some ⟨kb, 0, none⟩) 1 1] 24) := by
    rw [hW]
    exact three_set HX3.out _ _ _
  have hBW : Below w.heap.size w W := by
    have h1 : Below w.heap.size w w2 := HB.out.trans (HB2.out.mono HB.out.size)
    exact h1.trans (hbut.below (by omega) h1.size)
  refine bodyPost_ret (results_cell_row rfl _ _ (w.heap.size + 1) 24 #[.int .i64 4, .int .i64 0, .slice (some ⟨kb, 0, none⟩) 1 1] (0, 0) _ rfl hWx Tryd.underlying24 rfl (by kernel_rfl)) rfl ?_
  refine ⟨some ⟨kb, 0, none⟩, 1, rfl, ?_, hBW⟩
  refine kds_on (cap := cap) ?_ hc (HK.out.below hBW)
  rw [← HK2.out]
  exact hbut.block kb (Array.getElem?_eq_some_iff.1 HK2.out).1 (by have := HKB.out; have := HUS.out; omega)

end Go.Proofs.YtejombhfkobcbaaDoor
