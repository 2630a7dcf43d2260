/- Holds of a formula and a word. truth. -/
import Derived.Test.YtmdpbaobihdgkaaGreatDoorHld
import Derived.Test.YtmdpbaobihdgkaaGreatDoorApp
import Derived.Test.YtmdpbaobihdgkaaGreatDoorChkJ
import Derived.Test.YtmdpbaobihdgkaaGreatDoorMkfJ
namespace Go.Proofs.YtmdpbaobihdgkaaGreatDoor
open Go.RowKit

/-- What is wrong with a formula or a word. -/
def hchk (t : Fml) (s m : Nat) : Int := if (chk t 1 0).1 ≠ 0 then (chk t 1 0).1 else wchk s m

/-- All that a call with a formula and a word wants. -/
structure Fw (w : World) (t : Fml) (a : Option Addr) (sa : Option Addr) (s sc : Nat) (la : Option Addr) (m lc : Nat) (S L : Nat → Int) : Prop where
  kc : kcAt w
  kds : Kds w t a
  cnt : t.cnt ≤ 9223372036854775807
  wd : Wd w sa s la m S L
  sn : sa = none → s = 0 ∧ sc = 0
  ln : la = none → m = 0 ∧ lc = 0


theorem Fw.below {w w' : World} {t : Fml} {a : Option Addr} {sa : Option Addr} {s sc : Nat} {la : Option Addr} {m lc : Nat} {S L : Nat → Int} (h : Fw w t a sa s sc la m lc S L) (hb : Below w.heap.size w w') : Fw w' t a sa s sc la m lc S L :=
  ⟨h.kc.below hb h.kc.pos, h.kds.below hb, h.cnt, h.wd.below hb, h.sn, h.ln⟩

/-- The two boxes of a formula and a word. -/
structure Fx (w : World) (B : Nat) (t : Fml) (a : Option Addr) (cap : Nat) (sa : Option Addr) (s sc : Nat) (la : Option Addr) (m lc : Nat) : Prop where
  f0 : w.cell? ⟨B, 0, none⟩ = some (.int .i64 t.kind)
  f1 : w.cell? ⟨B, 1, none⟩ = some (.int .i64 t.num)
  f2 : w.cell? ⟨B, 2, none⟩ = some (.slice a t.cnt cap)
  g0 : w.cell? ⟨B + 1, 0, none⟩ = some (.slice sa s sc)
  g1 : w.cell? ⟨B + 1, 1, none⟩ = some (.slice la m lc)

theorem Fx.below {w w' : World} {B : Nat} {t : Fml} {a : Option Addr} {cap : Nat} {sa : Option Addr} {s sc : Nat} {la : Option Addr} {m lc : Nat} (h : Fx w B t a cap sa s sc la m lc) (hb : Below w.heap.size w w') : Fx w' B t a cap sa s sc la m lc :=
  ⟨below_cell hb (Nat.le_refl _) h.f0, below_cell hb (Nat.le_refl _) h.f1, below_cell hb (Nat.le_refl _) h.f2, below_cell hb (Nat.le_refl _) h.g0, below_cell hb (Nat.le_refl _) h.g1⟩

theorem fx_new (w : World) (t : Fml) (a : Option Addr) (cap : Nat) (sa : Option Addr) (s sc : Nat) (la : Option Addr) (m lc : Nat) :
    Fx ((w.alloc (.cells #[.int .i64 t.kind, .int .i64 t.num, .slice a t.cnt cap] 24)).alloc (.cells #[.slice sa s sc, .slice la m lc] 27)) w.heap.size t a cap sa s sc la m lc := by
  have e1 : (w.alloc (.cells #[.int .i64 t.kind, .int .i64 t.num, .slice a t.cnt cap] 24)).heap.size = w.heap.size + 1 := by simp
  have h1 : ((w.alloc (.cells #[.int .i64 t.kind, .int .i64 t.num, .slice a t.cnt cap] 24)).alloc (.cells #[.slice sa s sc, .slice la m lc] 27)).heap[w.heap.size]? = some (.cells #[.int .i64 t.kind, .int .i64 t.num, .slice a t.cnt cap] 24) := by
    rw [Go.Deep.blk_alloc_lt _ _ _ (by omega)]
    exact Go.Deep.blk_alloc_new _ _
  have h2 : ((w.alloc (.cells #[.int .i64 t.kind, .int .i64 t.num, .slice a t.cnt cap] 24)).alloc (.cells #[.slice sa s sc, .slice la m lc] 27)).heap[w.heap.size + 1]? = some (.cells #[.slice sa s sc, .slice la m lc] 27) := by
    rw [← e1]
    exact Go.Deep.blk_alloc_new _ _
  exact ⟨cell_of_cells h1 rfl, cell_of_cells h1 rfl, cell_of_cells h1 rfl, cell_of_cells h2 rfl, cell_of_cells h2 rfl⟩

set_option maxHeartbeats 2000000 in
theorem holdsF_bad {w : World} {t : Fml} {a : Option Addr} {cap : Nat} {sa : Option Addr} {s sc : Nat} {la : Option Addr} {m lc : Nat} {S L : Nat → Int} (h : Fw w t a sa s sc la m lc S L) (h0 : hchk t s m ≠ 0) :
    Calls Tryz.prog 22 #[.agg #[.int .i64 t.kind, .int .i64 t.num, .slice a t.cnt cap], .agg #[.slice sa s sc, .slice la m lc]] w fun e w' => e = .returned (.tuple #[.slice none 0 0, .int .i64 (hchk t s m)]) ∧ Below w.heap.size w w' := by
  obtain ⟨u, hu⟩ : ∃ y, y = (w.alloc (.cells #[.int .i64 t.kind, .int .i64 t.num, .slice a t.cnt cap] 24)).alloc (.cells #[.slice sa s sc, .slice la m lc] 27) := ⟨_, rfl⟩
  have hB : Below w.heap.size w u := by rw [hu]; exact below_alloc2 _ _ _
  have hx : Fx u w.heap.size t a cap sa s sc la m lc := by rw [hu]; exact fx_new _ _ _ _ _ _ _ _ _ _
  have C1 := hid (check_any t a cap u (h.below hB).kc (h.below hB).kds h.cnt)
  have C2 : Hid (∀ z, Calls Tryz.prog 11 #[.agg #[.slice sa s sc, .slice la m lc]] z fun e w' => e = .returned (.int .i64 (wchk s m)) ∧ Below z.heap.size z w') := fun z => wcheck_any sa s sc la m lc z h.wd.s47 h.wd.m47
  have HX : Hid (∀ z, Below u.heap.size u z → Fx z w.heap.size t a cap sa s sc la m lc ∧ Below w.heap.size w z) := fun z hz => ⟨hx.below hz, hB.trans (hz.mono hB.size)⟩
  have HE : Hid (hchk t s m = if (chk t 1 0).1 ≠ 0 then (chk t 1 0).1 else wchk s m) := rfl
  have HU := hid hu
  generalize hchk t s m = q at *
  generalize (chk t 1 0).1 = c at *
  generalize wchk s m = d at *
  clear hu hB hx h
  by_cases hc : c = 0
  · subst hc
    obtain rfl : q = d := HE.out
    have hqb : (q == 0) = false := beq_eq_false_iff_ne.2 h0
    clear HE h0
    go_enter Tryz.func22, Tryz.ntmps22
    go_wp2_with fail
    rw [← HU.out]
    refine C1.out.mono ?_
    rintro e w2 ⟨rfl, hb2⟩
    have hx2 := HX.out w2 hb2
    have g0 := hx2.1.g0
    have g1 := hx2.1.g1
    have D := hid (C2.out w2)
    have H2 := hid hb2
    clear hx2 C1 C2 hb2
    go_wp2_with fail
    refine D.out.mono ?_
    rintro e w3 ⟨rfl, hb3⟩
    have H3 := hid (HX.out w3 (H2.out.trans (hb3.mono H2.out.size))).2
    clear D hb3
    go_wp2
    go_ret2
    exact ⟨rfl, H3.out⟩
  · obtain rfl : q = c := HE.out.trans (if_pos hc)
    have hqb : (q == 0) = false := beq_eq_false_iff_ne.2 hc
    clear HE h0 hc
    go_enter Tryz.func22, Tryz.ntmps22
    go_wp2_with fail
    rw [← HU.out]
    refine C1.out.mono ?_
    rintro e w2 ⟨rfl, hb2⟩
    have H2 := hid (HX.out w2 hb2).2
    clear C1 C2 hb2
    go_wp2
    go_ret2
    exact ⟨rfl, H2.out⟩

set_option maxHeartbeats 4000000 in
theorem holdsF_ok {w : World} {t : Fml} {a : Option Addr} {cap : Nat} {sa : Option Addr} {s sc : Nat} {la : Option Addr} {m lc : Nat} {S L : Nat → Int} (h : Fw w t a sa s sc la m lc S L) (h0 : hchk t s m = 0) :
    Calls Tryz.prog 22 #[.agg #[.int .i64 t.kind, .int .i64 t.num, .slice a t.cnt cap], .agg #[.slice sa s sc, .slice la m lc]] w fun e w' => ∃ b, e = .returned (.tuple #[.slice (some ⟨b, 0, none⟩) ((s + m : Nat)) ((s + m : Nat)), .int .i64 0]) ∧ w.heap.size ≤ b ∧ w'.rowIs b 4 (s + m) (fun p => .bool (hb (s + m) (atm s m S L) t p)) ∧ Below w.heap.size w w' := by
  obtain ⟨u, hu⟩ : ∃ y, y = (w.alloc (.cells #[.int .i64 t.kind, .int .i64 t.num, .slice a t.cnt cap] 24)).alloc (.cells #[.slice sa s sc, .slice la m lc] 27) := ⟨_, rfl⟩
  have hB : Below w.heap.size w u := by rw [hu]; exact below_alloc2 _ _ _
  have hx : Fx u w.heap.size t a cap sa s sc la m lc := by rw [hu]; exact fx_new _ _ _ _ _ _ _ _ _ _
  have hcc : (chk t 1 0).1 = 0 ∧ wchk s m = 0 := by
    unfold hchk at h0
    by_cases hc : (chk t 1 0).1 = 0
    · rw [if_neg (by rw [hc]; decide)] at h0
      exact ⟨hc, h0⟩
    · rw [if_pos hc] at h0
      exact absurd h0 hc
  obtain ⟨hs60, hm⟩ := wchk_ok hcc.2
  have HWf := hid (chk_wf t 1 0 hcc.1).1
  have C1 := hid (check_any t a cap u (h.below hB).kc (h.below hB).kds h.cnt)
  have C2 : Hid (∀ z, Calls Tryz.prog 11 #[.agg #[.slice sa s sc, .slice la m lc]] z fun e w' => e = .returned (.int .i64 (wchk s m)) ∧ Below z.heap.size z w') := fun z => wcheck_any sa s sc la m lc z h.wd.s47 h.wd.m47
  rw [hcc.1] at C1
  rw [hcc.2] at C2
  have HX : Hid (∀ z, Below u.heap.size u z → Fx z w.heap.size t a cap sa s sc la m lc ∧ Below w.heap.size w z ∧ Fw z t a sa s sc la m lc S L) := fun z hz => ⟨hx.below hz, hB.trans (hz.mono hB.size), (h.below hB).below hz⟩
  have HU := hid hu
  have HL64 : Hid (∀ i, 0 ≤ ltr s m S L i ∧ ltr s m S L i < 18446744073709551616) := h.wd.lu64 hm
  have hsn := h.sn
  have hln := h.ln
  have HSN := hid (And.intro hsn hln)
  have hsz : w.heap.size + 1 < u.heap.size := by rw [hu]; simp
  clear hu hB hx h hcc h0 hsn hln
  go_enter Tryz.func22, Tryz.ntmps22
  go_wp2_with fail
  rw [← HU.out]
  refine C1.out.mono ?_
  rintro e w2 ⟨rfl, hb2⟩
  have hx2 := HX.out w2 hb2
  have g0 := hx2.1.g0
  have g1 := hx2.1.g1
  have D := hid (C2.out w2)
  have H2 := hid hb2
  clear hx2 C1 C2 hb2
  go_wp2_with fail
  refine D.out.mono ?_
  rintro e w3 ⟨rfl, hb3⟩
  have H3 : Hid (Below u.heap.size u w3) := H2.out.trans (hb3.mono H2.out.size)
  clear D hb3 g0 g1 H2
  obtain ⟨hx3, hB3, hF3⟩ := HX.out w3 H3.out
  have f0 := hx3.f0
  have f1 := hx3.f1
  have f2 := hx3.f2
  have g0 := hx3.g0
  have g1 := hx3.g1
  have hs3 : w.heap.size + 1 < w3.heap.size := Nat.lt_of_lt_of_le hsz H3.out.size
  have HF3 := hid hF3
  have HB3 := hid hB3
  have HX3 := hid hx3
  have HBu : Hid (Below w3.heap.size w3 (w3.alloc (.cells #[.slice sa s sc, .slice la m lc] 25)).drew) := below_drewN (box_below w3 _) 1
  have hsp : 0 < s + m := by omega
  have n1 := World.new_ne w3 _ f0
  have n2 := World.new_ne w3 _ g0
  clear hx3 hB3 hF3
  go_wp2
  go_region_held3 (fun z => z.cell? ⟨w.heap.size, 0, none⟩ = some (.int .i64 t.kind) ∧ z.cell? ⟨w.heap.size, 1, none⟩ = some (.int .i64 t.num) ∧ z.cell? ⟨w.heap.size, 2, none⟩ = some (.slice a t.cnt cap) ∧ z.cell? ⟨w.heap.size + 1, 0, none⟩ = some (.slice sa s sc) ∧ z.cell? ⟨w.heap.size + 1, 1, none⟩ = some (.slice la m lc)) (first | go_keep)
    (first | (go_at_call 62; refine (concat_any (w := _) (S := S) (L := L) ?_ ?_ ?_ ?_ HSN.out.1 HSN.out.2 hs60 hsp).mono ?_; (exact cell_of_alloc rfl); (exact cell_of_alloc rfl); (exact (HF3.out.wd.below HBu.out).stem); (exact (HF3.out.wd.below HBu.out).loop); rintro e w4 ⟨va, vc, rfl, v1, v2, v3, v4, v5⟩; have hB4 := HBu.out.trans (v5.mono HBu.out.size); have pf0 := below_cell hB4 (Nat.le_refl _) f0; have pf1 := below_cell hB4 (Nat.le_refl _) f1; have pf2 := below_cell hB4 (Nat.le_refl _) f2; have pg0 := below_cell hB4 (Nat.le_refl _) g0; have pg1 := below_cell hB4 (Nat.le_refl _) g1) | (go_at_call 63; refine (holds_any va s m vc S L hs60 hm HL64.out t a cap _ ?_ HWf.out ?_).mono ?_; (exact (HF3.out.below hB4).kds); (exact v4.congr (fun i hi => cat_ltr hi)); rintro e w5 ⟨b5, rfl, k1, k2, k3⟩; have rf0 := below_cell k3 (Nat.le_refl _) pf0; have rf1 := below_cell k3 (Nat.le_refl _) pf1; have rf2 := below_cell k3 (Nat.le_refl _) pf2; have rg0 := below_cell k3 (Nat.le_refl _) pg0; have rg1 := below_cell k3 (Nat.le_refl _) pg1) | fail)
  have H5 : Hid (w.heap.size ≤ b5 ∧ w5.rowIs b5 4 (s + m) (fun p => .bool (hb (s + m) (atm s m S L) t p)) ∧ Below w.heap.size w w5) := by
    have hB5 : Below w.heap.size w w4 := HB3.out.trans (hB4.mono HB3.out.size)
    exact ⟨Nat.le_trans hB5.size k1, k2, hB5.trans (k3.mono hB5.size)⟩
  clear v1 v2 v3 v4 v5 hB4 k1 k2 k3 rf0 rf1 rf2 rg0 rg1 pf0 pf1 pf2 pg0 pg1
  go_wp2
  go_ret2
  exact ⟨b5, rfl, H5.out⟩

end Go.Proofs.YtmdpbaobihdgkaaGreatDoor

namespace Go.Proofs.YtmdpbaobihdgkaaGreatDoor
open Go.RowKit

/-- What truth answers. -/
def trV (t : Fml) (s m : Nat) (S L : Nat → Int) : Bool × Bool := if hchk t s m = 0 then (hb (s + m) (atm s m S L) t 0, true) else (false, false)

set_option maxHeartbeats 2000000 in
theorem truth_any {w : World} {t : Fml} {a : Option Addr} {cap : Nat} {sa : Option Addr} {s sc : Nat} {la : Option Addr} {m lc : Nat} {S L : Nat → Int} (h : Fw w t a sa s sc la m lc S L) :
    Calls Tryz.prog 8 #[.agg #[.int .i64 t.kind, .int .i64 t.num, .slice a t.cnt cap], .agg #[.slice sa s sc, .slice la m lc]] w fun e w' => e = .returned (.tuple #[.bool (trV t s m S L).1, .bool (trV t s m S L).2]) ∧ Below w.heap.size w w' := by
  obtain ⟨u, hu⟩ : ∃ y, y = (w.alloc (.cells #[.int .i64 t.kind, .int .i64 t.num, .slice a t.cnt cap] 24)).alloc (.cells #[.slice sa s sc, .slice la m lc] 27) := ⟨_, rfl⟩
  have hB : Below w.heap.size w u := by rw [hu]; exact below_alloc2 _ _ _
  have HU := hid hu
  have HB := hid hB
  have hF := h.below hB
  by_cases h0 : hchk t s m = 0
  · have C := hid (holdsF_ok (cap := cap) hF h0)
    have hE : trV t s m S L = (hb (s + m) (atm s m S L) t 0, true) := if_pos h0
    have hpos : 0 < s + m := by
      unfold hchk at h0
      by_cases hc : (chk t 1 0).1 = 0
      · rw [if_neg (by rw [hc]; decide)] at h0
        have := wchk_ok h0
        omega
      · rw [if_pos hc] at h0
        exact absurd h0 hc
    rw [hE]
    clear hE hu hB hF h h0
    generalize hb (s + m) (atm s m S L) t = F at *
    obtain ⟨n, hn⟩ : ∃ n, n = s + m := ⟨_, rfl⟩
    rw [← hn] at C hpos
    clear hn
    go_enter Tryz.func8, Tryz.ntmps8
    go_wp2_with fail
    rw [← HU.out]
    refine C.out.mono ?_
    rintro e w2 ⟨b, rfl, _, hr, hb⟩
    have hc0 := hr.cell hpos
    have hnz : ((n : Int) == 0) = false := beq_eq_false_iff_ne.2 (by omega)
    have hn0 : ¬ n = 0 := by omega
    have HB2 := hid (HB.out.trans (hb.mono HB.out.size))
    clear hr hb C
    go_wp2
    go_ret2
    exact ⟨rfl, HB2.out⟩
  · have C := hid (holdsF_bad (cap := cap) hF h0)
    have hE : trV t s m S L = (false, false) := if_neg h0
    rw [hE]
    generalize hchk t s m = q at *
    have hq : (q == 0) = false := beq_eq_false_iff_ne.2 h0
    clear hE hu hB hF h
    go_enter Tryz.func8, Tryz.ntmps8
    go_wp2_with fail
    rw [← HU.out]
    refine C.out.mono ?_
    rintro e w2 ⟨rfl, hb⟩
    have HB2 := hid (HB.out.trans (hb.mono HB.out.size))
    clear hb C
    go_wp2
    go_ret2
    exact ⟨rfl, HB2.out⟩

end Go.Proofs.YtmdpbaobihdgkaaGreatDoor
