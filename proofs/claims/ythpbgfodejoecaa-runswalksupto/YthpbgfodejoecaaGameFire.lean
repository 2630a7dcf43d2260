/- fire. -/
import Derived.Test.YthpbgfodejoecaaGameEnJ
namespace Go.Proofs.Ythpbgfodejoecaa
open Go.RowKit

/-- The marking behind a step. -/
def frs (K A B : Nat → Int) (t : St3) (m : Nat → Int) (j : Nat) : Int := if K t.1.toNat = 3 then 0 else gvn A t (tkn B t m) j

/-- What a step's error is, or its marking. -/
def FrIs (b0 : Nat) (K A B : Nat → Int) (F : Nat) (m : Nat → Int) (t : St3) (e : Ending) (w : World) : Prop :=
  (¬ enb K A B F m t ∧ e = .returned (.tuple #[.slice none 0 0, .int .i64 9])) ∨
    (enb K A B F m t ∧ (∃ j, j < F ∧ 9 < frs K A B t m j) ∧ e = .returned (.tuple #[.slice none 0 0, .int .i64 7])) ∨
    (enb K A B F m t ∧ (∀ j, j < F → frs K A B t m j ≤ 9) ∧ ∃ g c, b0 ≤ g ∧ e = .returned (.tuple #[.slice (some ⟨g, 0, none⟩) F c, .int .i64 0]) ∧ Mk w g F (frs K A B t m))

/-- What fire answers. -/
def FiIs (b0 : Nat) (K A B : Nat → Int) (F : Nat) (l : List St3) (m : Nat → Int) (step : Int) (e : Ending) (w : World) : Prop :=
  (¬ (0 ≤ step ∧ step < l.length) ∧ e = .returned (.tuple #[.slice none 0 0, .int .i64 1])) ∨ ((0 ≤ step ∧ step < l.length) ∧ FrIs b0 K A B F m (l.getD step.toNat (0, 0, 0)) e w)

theorem FiIs.mono {b0 b1 : Nat} {K A B : Nat → Int} {F : Nat} {l : List St3} {m : Nat → Int} {step : Int} {e : Ending} {w : World} (h : FiIs b0 K A B F l m step e w) (hb : b1 ≤ b0) : FiIs b1 K A B F l m step e w := by
  rcases h with h | ⟨h1, h | h | ⟨h2, h3, g, c, h4, h5⟩⟩
  · exact Or.inl h
  · exact Or.inr ⟨h1, Or.inl h⟩
  · exact Or.inr ⟨h1, Or.inr (Or.inl h)⟩
  · exact Or.inr ⟨h1, Or.inr (Or.inr ⟨h2, h3, g, c, by omega, h5⟩)⟩

theorem chk_some {N F : Nat} {M : Nat → ByteArray} {K A B : Nat → Int} (h : ChkIs N F M K A B 0) : 0 < F := by
  obtain ⟨_, _, _, h1, h2, _⟩ := chk_zero h
  obtain ⟨i, hi, hK⟩ := tally_pos (X := K) (x := 1) (n := N) (by omega)
  unfold fitAll at h2
  rw [decide_eq_true_eq] at h2
  have h3 := h2 i hi
  unfold fitOk at h3
  rw [if_pos hK, decide_eq_true_eq] at h3
  have := tally_le A i F
  omega

theorem tkn_bound {K A B : Nat → Int} {F : Nat} {m : Nat → Int} {t : St3} (he : enb K A B F m t) (h9 : ∀ i, i < F → 0 ≤ m i ∧ m i ≤ 9) : ∀ i, i < F → 0 ≤ tkn B t m i ∧ tkn B t m i ≤ 9 := by
  intro i hi
  have h := h9 i hi
  unfold tkn
  split
  · rename_i hc
    rcases hc with ⟨h1, h2⟩ | ⟨_, _, h3⟩
    · unfold enb at he
      rcases he with ⟨_, he⟩ | ⟨he, _⟩ | ⟨he, _⟩
      · have e : t.2.1.toNat = i := by omega
        rw [e] at he
        omega
      · omega
      · omega
    · omega
  · omega

theorem gvn_bound {A : Nat → Int} {t : St3} {Z : Nat → Int} {i : Nat} : Z i ≤ gvn A t Z i ∧ gvn A t Z i ≤ Z i + 1 := by
  unfold gvn
  split <;> omega

theorem frs_bound {K A B : Nat → Int} {F : Nat} {m : Nat → Int} {t : St3} (he : enb K A B F m t) (h9 : ∀ i, i < F → 0 ≤ m i ∧ m i ≤ 9) : ∀ i, i < F → 0 ≤ frs K A B t m i := by
  intro i hi
  unfold frs
  split
  · omega
  · have := tkn_bound he h9 i hi
    have := gvn_bound (A := A) (t := t) (Z := tkn B t m) (i := i)
    omega

set_option maxHeartbeats 4000000 in
theorem fire_at {na fa sa ia oa : Option Addr} {N nc F fc sc ic oc : Nat} {M : Nat → ByteArray} {K A B : Nat → Int} {l : List St3} {w : World} (h : Brd w na N nc fa F sa ia oa M K A B l) {ma : Option Addr} {mc : Nat} {m : Nat → Int} (hm : Row w ma F m) (h9 : ∀ i, i < F → 0 ≤ m i ∧ m i ≤ 9) {s : Nat} (hs : s < l.length) (n : Nat) (x o : Int) (hst : l.getD s (0, 0, 0) = ((n : Int), x, o)) (hn : n < N) (hxF : x < F) (ho0 : 0 ≤ o) (ho1 : o < 1073741824) :
    Calls Try.prog 76 #[.agg #[.slice na N nc, .slice fa F fc, .slice sa l.length sc, .slice ia N ic, .slice oa N oc], .slice ma F mc, .int .i64 s] w fun e w' => Below w.heap.size w w' ∧ FrIs w.heap.size K A B F m ((n : Int), x, o) e w' := by
  have HH : Hid (Brd w na N nc fa F sa ia oa M K A B l) := h
  have HMr : Hid (Row w ma F m) := hm
  have H9 : Hid (∀ i, i < F → 0 ≤ m i ∧ m i ≤ 9) := h9
  have hF0 : 0 < F := chk_some h.chk
  have hF30 : F ≤ 30 := (chk_zero h.chk).1.2
  have hfew := h.few
  obtain ⟨sb, so, hsa, hsc⟩ := h.sts
  obtain rfl := hsa (by omega)
  have hcc := hsc s hs
  simp only [hst] at hcc
  obtain ⟨hc0, hc1, hc2⟩ := hcc
  have hsl : sb < w.heap.size := World.block_lt_of_cell? _ _ hc0
  obtain ⟨nb, no, hna, hnc⟩ := h.prc.nds
  obtain rfl := hna (by omega)
  have hk0 := (hnc n hn).2
  obtain ⟨mb, mo, hma, _⟩ := hm
  obtain rfl := hma hF0
  have hsi : ¬ (l.length : Int) ≤ (s : Int) := by omega
  have hs0 : ¬ (s : Int) < 0 := by omega
  have hsi' : (s : Int) < (l.length : Int) := by omega
  have hnNi : (n : Int) < (N : Int) := by omega
  obtain ⟨W0, eW0⟩ : ∃ u, u = w.alloc (.cells #[.slice (some ⟨nb, no, none⟩) N nc, .slice fa F fc, .slice (some ⟨sb, so, none⟩) l.length sc, .slice ia N ic, .slice oa N oc] 94) := ⟨_, rfl⟩
  have HW0 : Hid (Below w.heap.size w W0 ∧ W0.heap.size = w.heap.size + 1) := by subst eW0; exact ⟨box_below _ _, by simp⟩
  have HEW0 : Hid (w.alloc (.cells #[.slice (some ⟨nb, no, none⟩) N nc, .slice fa F fc, .slice (some ⟨sb, so, none⟩) l.length sc, .slice ia N ic, .slice oa N oc] 94) = W0) := eW0.symm
  have HBx0 : Hid (∀ u, Below W0.heap.size W0 u → u.cell? ⟨w.heap.size, 0, none⟩ = some (.slice (some ⟨nb, no, none⟩) N nc) ∧ u.cell? ⟨w.heap.size, 1, none⟩ = some (.slice fa F fc) ∧ u.cell? ⟨w.heap.size, 2, none⟩ = some (.slice (some ⟨sb, so, none⟩) l.length sc) ∧ u.cell? ⟨w.heap.size, 3, none⟩ = some (.slice ia N ic) ∧ u.cell? ⟨w.heap.size, 4, none⟩ = some (.slice oa N oc)) := fun u hu => by
    subst eW0
    exact ⟨new_alloc hu rfl, new_alloc hu rfl, new_alloc hu rfl, new_alloc hu rfl, new_alloc hu rfl⟩
  have HOk : Hid (mkOk F F m = true) := mkOk_yes h9
  have C0 : Hid (Calls Try.prog 74 #[.agg #[.slice (some ⟨nb, no, none⟩) N nc, .slice fa F fc, .slice (some ⟨sb, so, none⟩) l.length sc, .slice ia N ic, .slice oa N oc], .slice (some ⟨mb, mo, none⟩) F mc] W0 fun e w' => e = .returned (.bool (mkOk F F m)) ∧ Below W0.heap.size W0 w') := isMarking_any _ _ _ _ _ N nc F fc _ sc N ic N oc _ F mc m W0 (by omega) (HMr.out.below HW0.out.1)
  have HSc : Hid (w.cell? ⟨sb, so + s * 3, none⟩ = some (.int .i64 n) ∧ w.cell? ⟨sb, so + s * 3 + 1, none⟩ = some (.int .i64 x) ∧ w.cell? ⟨sb, so + s * 3 + 2, none⟩ = some (.int .i64 o) ∧ w.cell? ⟨nb, no + n * 2 + 1, none⟩ = some (.int .i64 (K n))) := ⟨hc0, hc1, hc2, hk0⟩
  clear eW0 h h9 hsc hsa hna hnc hma hk0 hc0 hc1 hc2 hsl
  go_enter Try.func76, Try.ntmps76
  go_wp2_with fail
  rw [HEW0.out]
  refine C0.out.mono ?_
  rintro e w0 ⟨he, hb0⟩
  rw [HOk.out] at he
  subst he
  have HBw0 : Hid (Below w.heap.size w w0) := HW0.out.1.trans (hb0.mono HW0.out.1.size)
  have hsw0 : w.heap.size < w0.heap.size := by have := hb0.size; have := HW0.out.2; omega
  have HB00 : Hid (Below W0.heap.size W0 w0) := hb0
  obtain ⟨a0, a1, a2, a3, a4⟩ := HBx0.out w0 hb0
  have hc0 := (HBw0.out.cell (p := ⟨sb, so + s * 3, none⟩) (World.block_lt_of_cell? _ _ HSc.out.1)).trans HSc.out.1
  have hc1 := (HBw0.out.cell (p := ⟨sb, so + s * 3 + 1, none⟩) (World.block_lt_of_cell? _ _ HSc.out.2.1)).trans HSc.out.2.1
  have hc2 := (HBw0.out.cell (p := ⟨sb, so + s * 3 + 2, none⟩) (World.block_lt_of_cell? _ _ HSc.out.2.2.1)).trans HSc.out.2.2.1
  have hsl : sb < w0.heap.size := World.block_lt_of_cell? _ _ hc0
  obtain ⟨W, eW⟩ : ∃ u, u = w0.alloc (.cells #[.int .i64 n, .int .i64 x, .int .i64 o] 66) := ⟨_, rfl⟩
  have HW : Hid (Below w.heap.size w W ∧ W.heap.size = w0.heap.size + 1) := by subst eW; exact ⟨HBw0.out.trans ((box_below _ _).mono HBw0.out.size), by simp⟩
  have HBx : Hid (∀ u, Below W.heap.size W u → (u.cell? ⟨w.heap.size, 0, none⟩ = some (.slice (some ⟨nb, no, none⟩) N nc) ∧ u.cell? ⟨w.heap.size, 1, none⟩ = some (.slice fa F fc) ∧ u.cell? ⟨w.heap.size, 2, none⟩ = some (.slice (some ⟨sb, so, none⟩) l.length sc) ∧ u.cell? ⟨w.heap.size, 3, none⟩ = some (.slice ia N ic) ∧ u.cell? ⟨w.heap.size, 4, none⟩ = some (.slice oa N oc)) ∧
      (u.cell? ⟨w0.heap.size, 0, none⟩ = some (.int .i64 n) ∧ u.cell? ⟨w0.heap.size, 1, none⟩ = some (.int .i64 x) ∧ u.cell? ⟨w0.heap.size, 2, none⟩ = some (.int .i64 o)) ∧ u.cell? ⟨nb, no + n * 2 + 1, none⟩ = some (.int .i64 (K n))) := fun u hu => by
    have h1 : Below w.heap.size w W := HW.out.1
    have h2 : Below w.heap.size w u := h1.trans (hu.mono h1.size)
    have h3 : Below W0.heap.size W0 W := by subst eW; exact HB00.out.trans ((box_below _ _).mono HB00.out.size)
    refine ⟨HBx0.out u (h3.trans (hu.mono h3.size)), ?_, (h2.cell (p := ⟨nb, no + n * 2 + 1, none⟩) (World.block_lt_of_cell? _ _ HSc.out.2.2.2)).trans HSc.out.2.2.2⟩
    subst eW
    exact ⟨new_alloc hu rfl, new_alloc hu rfl, new_alloc hu rfl⟩
  have HEW : Hid (w0.alloc (.cells #[.int .i64 n, .int .i64 x, .int .i64 o] 66) = W) := eW.symm
  have HBW : Hid (Brd W (some ⟨nb, no, none⟩) N nc fa F (some ⟨sb, so, none⟩) ia oa M K A B l) := HH.out.below HW.out.1
  have HMW : Hid (Row W (some ⟨mb, mo, none⟩) F m) := HMr.out.below HW.out.1
  have C1 : Hid (Calls Try.prog 75 #[.agg #[.slice (some ⟨nb, no, none⟩) N nc, .slice fa F fc, .slice (some ⟨sb, so, none⟩) l.length sc, .slice ia N ic, .slice oa N oc], .slice (some ⟨mb, mo, none⟩) F mc, .agg #[.int .i64 n, .int .i64 x, .int .i64 o]] W fun e w' => Told (enb K A B F m ((n : Int), x, o)) e ∧ Below W.heap.size W w') := isEnabled_any HBW.out HMW.out hn hxF
  clear eW hb0 C0
  go_wp2_with fail
  rw [HEW.out]
  refine C1.out.mono ?_
  rintro e w1 ⟨⟨z, rfl, hz⟩, hb1⟩
  have HB1 : Hid (Below W.heap.size W w1) := hb1
  have HBw1 : Hid (Below w.heap.size w w1) := HW.out.1.trans (hb1.mono HW.out.1.size)
  clear a0 a1 a2 a3 a4
  obtain ⟨⟨a0, a1, a2, a3, a4⟩, ⟨b0, b1, b2⟩, hkc⟩ := HBx.out w1 hb1
  have HZ : Hid (z = true ↔ enb K A B F m ((n : Int), x, o)) := hz
  clear hz hb1 C1 hc0 hc1 hc2
  cases hzz : z
  · have HZ2 : Hid (¬ enb K A B F m ((n : Int), x, o)) := fun hh => by have := HZ.out.2 hh; rw [hzz] at this; cases this
    clear hzz HZ
    go_wp2
    go_ret2
    exact ⟨HBw1.out, Or.inl ⟨HZ2.out, rfl⟩⟩
  · have HZ2 : Hid (enb K A B F m ((n : Int), x, o)) := HZ.out.1 hzz
    clear hzz HZ
    by_cases hK : K n = 3
    · have hK' : (K n == 3) = true := beq_iff_eq.2 hK
      have HFr : Hid (∀ j, frs K A B ((n : Int), x, o) m j = 0) := fun j => by unfold frs; rw [if_pos (by simpa using hK)]
      have hmk := run_make_row' (P := Try.prog) 26 3 (.int .i64 0) 8 Try.underlying26 Try.info3 rfl .i64 .i64 F (by omega) (by omega)
      clear hK
      go_wp2
      go_ret2
      refine ⟨HBw1.out.alloc HBw1.out.size _, Or.inr (Or.inr ⟨HZ2.out, fun j _ => by rw [HFr.out j]; decide, _, _, HBw1.out.size, rfl, ?_⟩)⟩
      exact (mk_made w1 F).congr (fun i _ => (HFr.out i).symm)
    · have hK' : (K n == 3) = false := beq_eq_false_iff_ne.2 hK
      have HFr : Hid (∀ j, frs K A B ((n : Int), x, o) m j = gvn A ((n : Int), x, o) (tkn B ((n : Int), x, o) m) j) := fun j => by unfold frs; rw [if_neg (by simpa using hK)]
      have C2 : Hid (Calls Try.prog 51 #[.slice (some ⟨mb, mo, none⟩) F mc] w1 fun e w' => ∃ v, e = .returned v ∧ w'.ownsRow w1.heap.size 3 1 v F (vals (lst F m)) ∧ Below w1.heap.size w1 w') := clone_any _ F mc m w1 (by omega) (HMW.out.below HB1.out) (fun hh => by cases hh)
      clear hK
      go_wp2_with fail
      refine C2.out.mono ?_
      rintro e w2 ⟨v, rfl, hown, hb2⟩
      obtain ⟨g, gc, rfl, hg1, hmk⟩ := mk_owns hown hF0
      have HB2 : Hid (Below W.heap.size W w2) := HB1.out.trans (hb2.mono HB1.out.size)
      have HG : Hid (W.heap.size ≤ g) := Nat.le_trans HB1.out.size hg1
      clear a0 a1 a2 a3 a4 b0 b1 b2 hkc
      obtain ⟨⟨a0, a1, a2, a3, a4⟩, ⟨b0, b1, b2⟩, _⟩ := HBx.out w2 HB2.out
      have C3 : Hid (Calls Try.prog 101 #[.agg #[.slice (some ⟨nb, no, none⟩) N nc, .slice fa F fc, .slice (some ⟨sb, so, none⟩) l.length sc, .slice ia N ic, .slice oa N oc], .slice (some ⟨g, 0, none⟩) F gc, .agg #[.int .i64 n, .int .i64 x, .int .i64 o]] w2 fun e w' => e = .returned (.tuple #[]) ∧ w2.grownBy w' (some g) ∧ Mk w' g F (tkn B ((n : Int), x, o) m)) := take_any HBW.out HB2.out HG.out hmk H9.out hn hxF _
      clear hown hb2 hg1 hmk C2
      go_wp2_with fail
      refine C3.out.mono ?_
      rintro e w3 ⟨rfl, hg3, hm3⟩
      have HB3 : Hid (Below W.heap.size W w3) := HB2.out.grown hg3 HB2.out.size (fun q e => by cases e; exact HG.out)
      clear a0 a1 a2 a3 a4 b0 b1 b2
      obtain ⟨⟨a0, a1, a2, a3, a4⟩, ⟨b0, b1, b2⟩, _⟩ := HBx.out w3 HB3.out
      have C4 : Hid (Calls Try.prog 102 #[.agg #[.slice (some ⟨nb, no, none⟩) N nc, .slice fa F fc, .slice (some ⟨sb, so, none⟩) l.length sc, .slice ia N ic, .slice oa N oc], .slice (some ⟨g, 0, none⟩) F gc, .agg #[.int .i64 n, .int .i64 x, .int .i64 o]] w3 fun e w' => e = .returned (.tuple #[]) ∧ w3.grownBy w' (some g) ∧ Mk w' g F (gvn A ((n : Int), x, o) (tkn B ((n : Int), x, o) m))) := give_any HBW.out HB3.out HG.out hm3 (tkn_bound HZ2.out H9.out) hn ho0 ho1 _
      clear hg3 hm3 C3
      go_wp2_with fail
      refine C4.out.mono ?_
      rintro e w4 ⟨rfl, hg4, hm4⟩
      have HB4 : Hid (Below W.heap.size W w4) := HB3.out.grown hg4 HB3.out.size (fun q e => by cases e; exact HG.out)
      have HBw4 : Hid (Below w.heap.size w w4) := HW.out.1.trans (HB4.out.mono HW.out.1.size)
      have HM4 : Hid (Mk w4 g F (frs K A B ((n : Int), x, o) m)) := hm4.congr (fun i _ => (HFr.out i).symm)
      have C5 : Hid (Calls Try.prog 103 #[.slice (some ⟨g, 0, none⟩) F gc] w4 fun e w' => (∃ y : Int, e = .returned (.int .i64 y) ∧ (9 < y ↔ ∃ i, i < F ∧ 9 < frs K A B ((n : Int), x, o) m i)) ∧ w' = w4) := max_any _ F gc _ w4 (by omega) hF0 HM4.out.row 9
      clear hg4 hm4 C4
      go_wp2_with fail
      refine C5.out.mono ?_
      rintro e w5 ⟨⟨y, rfl, hy⟩, rfl⟩
      have HY : Hid (9 < y ↔ ∃ i, i < F ∧ 9 < frs K A B ((n : Int), x, o) m i) := hy
      clear hy C5
      by_cases h99 : 9 < y
      · have HY2 : Hid (∃ i, i < F ∧ 9 < frs K A B ((n : Int), x, o) m i) := HY.out.1 h99
        go_wp2
        go_ret2
        exact ⟨HBw4.out, Or.inr (Or.inl ⟨HZ2.out, HY2.out, rfl⟩)⟩
      · have HY2 : Hid (∀ j, j < F → frs K A B ((n : Int), x, o) m j ≤ 9) := fun j hj => by
          rcases Int.lt_or_le 9 (frs K A B ((n : Int), x, o) m j) with c | c
          · exact absurd (HY.out.2 ⟨j, hj, c⟩) h99
          · exact c
        go_wp2
        go_ret2
        exact ⟨HBw4.out, Or.inr (Or.inr ⟨HZ2.out, HY2.out, _, _, Nat.le_trans HW.out.1.size HG.out, rfl, HM4.out⟩)⟩

set_option maxHeartbeats 1000000 in
theorem fire_any {na fa sa ia oa : Option Addr} {N nc F fc sc ic oc : Nat} {M : Nat → ByteArray} {K A B : Nat → Int} {l : List St3} {w : World} (h : Brd w na N nc fa F sa ia oa M K A B l) {ma : Option Addr} {mc : Nat} {m : Nat → Int} (hm : Row w ma F m) (h9 : ∀ i, i < F → 0 ≤ m i ∧ m i ≤ 9) (step : Int) :
    Calls Try.prog 76 #[.agg #[.slice na N nc, .slice fa F fc, .slice sa l.length sc, .slice ia N ic, .slice oa N oc], .slice ma F mc, .int .i64 step] w fun e w' => Below w.heap.size w w' ∧ FiIs w.heap.size K A B F l m step e w' := by
  by_cases hs : 0 ≤ step ∧ step < l.length
  · obtain ⟨s, rfl⟩ : ∃ s : Nat, step = s := ⟨step.toNat, by omega⟩
    have hsl : s < l.length := by omega
    have hmem := getD3_mem hsl
    rw [h.lis] at hmem
    obtain ⟨n, hn, h1, h2, h3, h4⟩ := step_facts hmem
    rw [← h.lis] at h1 h2 h3 h4
    have hF30 : F ≤ 30 := (chk_zero h.chk).1.2
    have hF0 : 0 < F := chk_some h.chk
    have hp : ((2 : Int) ^ tally A n F) ≤ 1073741824 := by
      exact pow_le (by have := tally_le A n F; omega)
    obtain ⟨t, ht⟩ : ∃ t, t = l.getD s (0, 0, 0) := ⟨_, rfl⟩
    rw [← ht] at h1 h2 h3 h4
    have hst : l.getD s (0, 0, 0) = ((n : Int), t.2.1, t.2.2) := by rw [← ht, ← h1]
    refine (fire_at h hm h9 hsl n t.2.1 t.2.2 hst hn ?_ h3 (by omega)).mono fun e w' hh => ⟨hh.1, Or.inr ⟨hs, ?_⟩⟩
    · rcases h2 with h2 | ⟨q, h2, h5, _⟩ <;> omega
    · rw [Int.toNat_natCast, hst]
      exact hh.2
  · have HS : Hid (¬ (0 ≤ step ∧ step < l.length)) := hs
    obtain ⟨W0, eW0⟩ : ∃ u, u = w.alloc (.cells #[.slice na N nc, .slice fa F fc, .slice sa l.length sc, .slice ia N ic, .slice oa N oc] 94) := ⟨_, rfl⟩
    have HW0 : Hid (Below w.heap.size w W0) := by subst eW0; exact box_below _ _
    have HEW0 : Hid (w.alloc (.cells #[.slice na N nc, .slice fa F fc, .slice sa l.length sc, .slice ia N ic, .slice oa N oc] 94) = W0) := eW0.symm
    have HBx0 : Hid (∀ u, Below W0.heap.size W0 u → u.cell? ⟨w.heap.size, 2, none⟩ = some (.slice sa l.length sc)) := fun u hu => by
      subst eW0
      exact new_alloc hu rfl
    have HOk : Hid (mkOk F F m = true) := mkOk_yes h9
    have hF30 : F ≤ 30 := (chk_zero h.chk).1.2
    have C0 : Hid (Calls Try.prog 74 #[.agg #[.slice na N nc, .slice fa F fc, .slice sa l.length sc, .slice ia N ic, .slice oa N oc], .slice ma F mc] W0 fun e w' => e = .returned (.bool (mkOk F F m)) ∧ Below W0.heap.size W0 w') := isMarking_any _ _ _ _ _ N nc F fc _ sc N ic N oc _ F mc m W0 (by omega) (hm.below HW0.out)
    clear eW0 h hm h9 hs
    go_enter Try.func76, Try.ntmps76
    go_wp2_with fail
    rw [HEW0.out]
    refine C0.out.mono ?_
    rintro e w0 ⟨he, hb0⟩
    rw [HOk.out] at he
    subst he
    have HB0 : Hid (Below w.heap.size w w0) := HW0.out.trans (hb0.mono HW0.out.size)
    have a2 := HBx0.out w0 hb0
    clear hb0 C0
    by_cases h0 : step < 0
    · go_wp2
      go_ret2
      exact ⟨HB0.out, Or.inl ⟨HS.out, rfl⟩⟩
    · have h1 : (l.length : Int) ≤ step := by have := HS.out; omega
      go_wp2
      go_ret2
      exact ⟨HB0.out, Or.inl ⟨HS.out, rfl⟩⟩

end Go.Proofs.Ythpbgfodejoecaa
