/- layMarked, Begin, Enabled, Fire. -/
import Derived.Test.YtpbmbhdnalijhaaGameLay
namespace Go.Proofs.Ytpbmbhdnalijhaa
open Go.RowKit

/-- The error of a call with a marking. -/
def mkE (E : Int) (ok : Bool) : Int := if E = 0 then (if ok = true then 0 else 1) else E

theorem mkE_bad {E : Int} {ok : Bool} (h : E ≠ 0) : mkE E ok = E := by unfold mkE; rw [if_neg h]
theorem mkE_no : mkE 0 false = 1 := rfl
theorem mkE_yes : mkE 0 true = 0 := rfl

theorem Brd.five {w w' : World} {r : Nat} {na fa sa : Option Addr} {N nc F ib ob : Nat} {M : Nat → ByteArray} {K A B : Nat → Int} {l : List St3} (h : Brd w na N nc fa F sa (some ⟨ib, 0, none⟩) (some ⟨ob, 0, none⟩) M K A B l)
    (h5 : Five w r (.slice none 0 0) (.slice none 0 0) (.slice none 0 0) (.slice none 0 0) (.slice none 0 0)) (hk : ∀ p : Addr, p.block ≠ r → w'.cell? p = w.cell? p) (hp : Prc w' na N nc fa F M K A B) (h1 : ib ≠ r) (h2 : ob ≠ r) : Brd w' na N nc fa F sa (some ⟨ib, 0, none⟩) (some ⟨ob, 0, none⟩) M K A B l :=
  ⟨hp, h.chk, five_sts h5 h.sts hk, h.lis, h.few, five_gr h5 h.ins hk h1, five_gr h5 h.outs hk h2⟩

theorem five_other {w : World} {r : Nat} {a b c d e : Value} (p : Addr) (hp : p.block ≠ r) : (((((w.setCell ⟨r, 0, none⟩ a).setCell ⟨r, 1, none⟩ b).setCell ⟨r, 2, none⟩ c).setCell ⟨r, 3, none⟩ d).setCell ⟨r, 4, none⟩ e).cell? p = w.cell? p := by
  rw [cell_set_other hp, cell_set_other hp, cell_set_other hp, cell_set_other hp, cell_set_other hp]

theorem five_below {B : Nat} {w0 w : World} {r : Nat} {a b c d e : Value} (h : Below B w0 w) (hr : B ≤ r) : Below B w0 (((((w.setCell ⟨r, 0, none⟩ a).setCell ⟨r, 1, none⟩ b).setCell ⟨r, 2, none⟩ c).setCell ⟨r, 3, none⟩ d).setCell ⟨r, 4, none⟩ e) :=
  ((((h.setCell hr _).setCell hr _).setCell hr _).setCell hr _).setCell hr _

set_option maxHeartbeats 1000000 in
theorem layMarked_any {na fa : Option Addr} {N nc F fc : Nat} {M : Nat → ByteArray} {K A B : Nat → Int} {e0 : Int} {w : World} (hp : Prc w na N nc fa F M K A B) (he : ChkIs N F M K A B e0) {ma : Option Addr} {n mc : Nat} {m : Nat → Int} (hn : n ≤ 140737488355328) (hm : Row w ma n m) :
    Calls Try.prog 34 #[.agg #[.slice na N nc, .slice fa F fc], .slice ma n mc] w fun e w' => Below w.heap.size w w' ∧ LyIs w.heap.size (mkE (spE e0 (stAll K A B F N).length) (mkOk F n m)) na N nc fa F fc M K A B e w' := by
  have HE : Hid (ChkIs N F M K A B e0) := he
  have HP : Hid (Prc w na N nc fa F M K A B) := hp
  have HM : Hid (Row w ma n m) := hm
  clear he hp hm
  obtain ⟨W, eW⟩ : ∃ x, x = (w.alloc (.cells #[.slice na N nc, .slice fa F fc] 25)).alloc (.cells #[.slice none 0 0, .slice none 0 0, .slice none 0 0, .slice none 0 0, .slice none 0 0] 61) := ⟨_, rfl⟩
  have HW : Hid (Below w.heap.size w W ∧ W.heap.size = w.heap.size + 1 + 1 ∧ Five W (w.heap.size + 1) (.slice none 0 0) (.slice none 0 0) (.slice none 0 0) (.slice none 0 0) (.slice none 0 0)) := by
    subst eW
    have e1 : (w.alloc (.cells #[.slice na N nc, .slice fa F fc] 25)).heap.size = w.heap.size + 1 := by simp
    refine ⟨(box_below _ _).trans ((box_below _ _).mono (by simp)), by simp, ?_⟩
    unfold Five
    rw [← e1, Go.Deep.blk_alloc_new]
  have HEW : Hid ((w.alloc (.cells #[.slice na N nc, .slice fa F fc] 25)).alloc (.cells #[.slice none 0 0, .slice none 0 0, .slice none 0 0, .slice none 0 0, .slice none 0 0] 61) = W) := eW.symm
  have C1 : Hid (Calls Try.prog 32 #[.agg #[.slice na N nc, .slice fa F fc]] W fun e w' => Below W.heap.size W w' ∧ LyIs W.heap.size (spE e0 (stAll K A B F N).length) na N nc fa F fc M K A B e w') := lay_any (HP.out.below HW.out.1) HE.out
  clear eW
  go_enter Try.func34, Try.ntmps34
  go_wp2_with fail
  rw [HEW.out]
  refine C1.out.mono ?_
  rintro e w1 ⟨hb1, hs1⟩
  have HB1 : Hid (Below W.heap.size W w1) := hb1
  have HBw1 : Hid (Below w.heap.size w w1) := HW.out.1.trans (hb1.mono HW.out.1.size)
  have H5 : Hid (Five w1 (w.heap.size + 1) (.slice none 0 0) (.slice none 0 0) (.slice none 0 0) (.slice none 0 0) (.slice none 0 0)) := HW.out.2.2.below hb1
  have hsz1 : w.heap.size + 1 < w1.heap.size := by have := hb1.size; have := HW.out.2.1; omega
  clear hb1 C1
  generalize hEE : spE e0 (stAll K A B F N).length = E at *
  rcases hs1 with ⟨h1, rfl⟩ | ⟨h1, sa, sc, ib, ob, hib, hob, rfl, hbrd⟩
  · have hz' : (E != 0) = true := by rw [bne_iff_ne]; exact h1
    have HZ : Hid (E ≠ 0) := h1
    obtain ⟨⟨q0, q1, q2, q3, q4⟩, ⟨f0, f1, f2, f3, f4⟩⟩ := five_cells H5.out
    clear h1
    go_wp2
    (try simp only [Exit.inBlock, Exit.then])
    refine bodyPost_ret (results_cell_tmp1 rfl _ _ (w.heap.size + 1) 61 #[.slice none 0 0, .slice none 0 0, .slice none 0 0, .slice none 0 0, .slice none 0 0] (0, 0) _ rfl ?_ Try.underlying61 rfl (by kernel_rfl)) rfl ?_
    · exact (five_set H5.out).below (box_below _ _)
    · refine ⟨?_, by rw [hEE, mkE_bad HZ.out]; exact Or.inl ⟨HZ.out, rfl⟩⟩
      exact (five_below HBw1.out (by omega)).trans ((box_below _ _).mono (five_below HBw1.out (by omega)).size)
  · subst h1
    have HBrd : Hid (Brd w1 na N nc fa F sa (some ⟨ib, 0, none⟩) (some ⟨ob, 0, none⟩) M K A B (stAll K A B F N)) := hbrd
    have HIo : Hid (W.heap.size ≤ ib ∧ W.heap.size ≤ ob) := ⟨hib, hob⟩
    clear hbrd hib hob
    generalize hla : stAll K A B F N = la at *
    obtain ⟨W2, eW2⟩ : ∃ x, x = w1.alloc (.cells #[.slice na N nc, .slice fa F fc, .slice sa la.length sc, .slice (some ⟨ib, 0, none⟩) N N, .slice (some ⟨ob, 0, none⟩) N N] 61) := ⟨_, rfl⟩
    have HW2 : Hid (Below w1.heap.size w1 W2 ∧ W2.heap.size = w1.heap.size + 1) := by subst eW2; exact ⟨box_below _ _, by simp⟩
    have HBx : Hid (∀ u, Below W2.heap.size W2 u → u.cell? ⟨w1.heap.size, 0, none⟩ = some (.slice na N nc) ∧ u.cell? ⟨w1.heap.size, 1, none⟩ = some (.slice fa F fc) ∧ u.cell? ⟨w1.heap.size, 2, none⟩ = some (.slice sa la.length sc) ∧ u.cell? ⟨w1.heap.size, 3, none⟩ = some (.slice (some ⟨ib, 0, none⟩) N N) ∧ u.cell? ⟨w1.heap.size, 4, none⟩ = some (.slice (some ⟨ob, 0, none⟩) N N)) := fun u hu => by
      subst eW2
      exact ⟨new_alloc hu rfl, new_alloc hu rfl, new_alloc hu rfl, new_alloc hu rfl, new_alloc hu rfl⟩
    have HEW2 : Hid (w1.alloc (.cells #[.slice na N nc, .slice fa F fc, .slice sa la.length sc, .slice (some ⟨ib, 0, none⟩) N N, .slice (some ⟨ob, 0, none⟩) N N] 61) = W2) := eW2.symm
    have HBw2 : Hid (Below w.heap.size w W2) := HBw1.out.trans (HW2.out.1.mono HBw1.out.size)
    have C2 : Hid (Calls Try.prog 48 #[.agg #[.slice na N nc, .slice fa F fc, .slice sa la.length sc, .slice (some ⟨ib, 0, none⟩) N N, .slice (some ⟨ob, 0, none⟩) N N], .slice ma n mc] W2 fun e w' => e = .returned (.bool (mkOk F n m)) ∧ Below W2.heap.size W2 w') := isMarking_any na fa sa _ _ N nc F fc _ sc N N N N ma n mc m W2 hn (HM.out.below HBw2.out)
    clear eW2
    go_wp2_with fail
    rw [HEW2.out]
    refine C2.out.mono ?_
    rintro e w2 ⟨rfl, hb2⟩
    have HB2 : Hid (Below w1.heap.size w1 w2) := HW2.out.1.trans (hb2.mono HW2.out.1.size)
    have HBw3 : Hid (Below w.heap.size w w2) := HBw1.out.trans (HB2.out.mono HBw1.out.size)
    obtain ⟨a0, a1, a2, a3, a4⟩ := HBx.out w2 hb2
    have H6 : Hid (Five w2 (w.heap.size + 1) (.slice none 0 0) (.slice none 0 0) (.slice none 0 0) (.slice none 0 0) (.slice none 0 0)) := H5.out.below HB2.out
    obtain ⟨⟨q0, q1, q2, q3, q4⟩, ⟨f0, f1, f2, f3, f4⟩⟩ := five_cells H6.out
    clear hb2 C2
    cases hok : mkOk F n m
    · have HOk : Hid (mkOk F n m = false) := hok
      clear hok
      go_wp2
      (try simp only [Exit.inBlock, Exit.then])
      refine bodyPost_ret (results_cell_tmp1 rfl _ _ (w.heap.size + 1) 61 #[.slice none 0 0, .slice none 0 0, .slice none 0 0, .slice none 0 0, .slice none 0 0] (0, 0) _ rfl (five_set H6.out) Try.underlying61 rfl (by kernel_rfl)) rfl ?_
      subst hla
      rw [hEE, HOk.out]
      exact ⟨five_below HBw3.out (by omega), Or.inl ⟨by decide, rfl⟩⟩
    · have HOk : Hid (mkOk F n m = true) := hok
      clear hok
      go_wp2
      (try simp only [Exit.inBlock, Exit.then])
      refine bodyPost_ret (results_cell_tmp1 rfl _ _ (w.heap.size + 1) 61 #[.slice na N nc, .slice fa F fc, .slice sa la.length sc, .slice (some ⟨ib, 0, none⟩) N N, .slice (some ⟨ob, 0, none⟩) N N] (0, 0) _ rfl (five_set H6.out) Try.underlying61 rfl (by kernel_rfl)) rfl ?_
      subst hla
      have hs := HW.out.2.1
      rw [hEE, HOk.out]
      exact ⟨five_below HBw3.out (by omega), Or.inr ⟨rfl, sa, sc, ib, ob, by have := HIo.out.1; omega, by have := HIo.out.2; omega, rfl, (HBrd.out.below HB2.out).five H6.out five_other (HP.out.below (five_below HBw3.out (by omega))) (by have := HIo.out.1; omega) (by have := HIo.out.2; omega)⟩⟩

theorem spE_zero {e0 : Int} {n : Nat} (h : spE e0 n = 0) : e0 = 0 ∧ n ≤ 60 := by
  unfold spE at h
  by_cases h1 : e0 = 0
  · rw [if_pos h1] at h
    by_cases h2 : n ≤ 60
    · exact ⟨h1, h2⟩
    · rw [if_neg h2] at h; cases h
  · rw [if_neg h1] at h
    exact absurd h h1

theorem mkE_zero {E : Int} {ok : Bool} (h : mkE E ok = 0) : E = 0 ∧ ok = true := by
  unfold mkE at h
  by_cases h1 : E = 0
  · rw [if_pos h1] at h
    cases ok
    · cases h
    · exact ⟨h1, rfl⟩
  · rw [if_neg h1] at h
    exact absurd h h1

theorem fi_tuple {K A B : Nat → Int} {F : Nat} {l : List St3} {m : Nat → Int} {step : Int} {e : Ending} {w : World} {b0 : Nat} (h : FiIs b0 K A B F l m step e w) : ∃ v1 v2, e = .returned (.tuple #[v1, v2]) := by
  rcases h with ⟨_, rfl⟩ | ⟨_, ⟨_, rfl⟩ | ⟨_, _, rfl⟩ | ⟨_, _, a, c, _, rfl, _⟩⟩ <;> exact ⟨_, _, rfl⟩

/-- An error and no list. -/
def Err (E : Int) (e : Ending) : Prop := e = .returned (.tuple #[.slice none 0 0, .int .i64 E])

/-- The error, or what is answered without one. -/
def Ans (E : Int) (P : Ending → World → Prop) (e : Ending) (w : World) : Prop := E ≠ 0 ∧ Err E e ∨ E = 0 ∧ P e w

/-- No error, and the list Z. -/
def Lst (n : Nat) (Z : Nat → Int) (e : Ending) (w : World) : Prop := ∃ a c, e = .returned (.tuple #[.slice a n c, .int .i64 0]) ∧ Row w a n Z

/-- No error, and the marking Z, in memory of its own. -/
def Mrk (n : Nat) (Z : Nat → Int) (e : Ending) (w : World) : Prop := ∃ g c, e = .returned (.tuple #[.slice (some ⟨g, 0, none⟩) n c, .int .i64 0]) ∧ Mk w g n Z

set_option maxHeartbeats 1000000 in
theorem beginF_any {na fa : Option Addr} {N nc F fc : Nat} {M : Nat → ByteArray} {K A B : Nat → Int} {e0 : Int} {w : World} (hp : Prc w na N nc fa F M K A B) (he : ChkIs N F M K A B e0) :
    Calls Try.prog 9 #[.agg #[.slice na N nc, .slice fa F fc]] w fun e w' => Below w.heap.size w w' ∧ Ans (spE e0 (stAll K A B F N).length) (Mrk F (bgn K A)) e w' := by
  obtain ⟨W, eW⟩ : ∃ x, x = w.alloc (.cells #[.slice na N nc, .slice fa F fc] 25) := ⟨_, rfl⟩
  have HW : Hid (Below w.heap.size w W) := by subst eW; exact box_below _ _
  have HEW : Hid (w.alloc (.cells #[.slice na N nc, .slice fa F fc] 25) = W) := eW.symm
  have C1 : Hid (Calls Try.prog 32 #[.agg #[.slice na N nc, .slice fa F fc]] W fun e w' => Below W.heap.size W w' ∧ LyIs W.heap.size (spE e0 (stAll K A B F N).length) na N nc fa F fc M K A B e w') := lay_any (hp.below HW.out) he
  clear eW hp he
  generalize hEE : spE e0 (stAll K A B F N).length = E at *
  go_enter Try.func9, Try.ntmps9
  go_wp2_with fail
  rw [HEW.out]
  refine C1.out.mono ?_
  rintro e w1 ⟨hb1, hs1⟩
  have HBw1 : Hid (Below w.heap.size w w1) := HW.out.trans (hb1.mono HW.out.size)
  clear hb1 C1
  rcases hs1 with ⟨h1, rfl⟩ | ⟨h1, sa, sc, ib, ob, _, _, rfl, hbrd⟩
  · have hz' : (E != 0) = true := by rw [bne_iff_ne]; exact h1
    have HZ : Hid (E ≠ 0) := h1
    clear h1
    go_wp2
    go_ret2
    exact ⟨HBw1.out.alloc HBw1.out.size _, Or.inl ⟨HZ.out, rfl⟩⟩
  · subst h1
    obtain ⟨W2, eW2⟩ : ∃ x, x = w1.alloc (.cells #[.slice na N nc, .slice fa F fc, .slice sa (stAll K A B F N).length sc, .slice (some ⟨ib, 0, none⟩) N N, .slice (some ⟨ob, 0, none⟩) N N] 61) := ⟨_, rfl⟩
    have HW2 : Hid (Below w1.heap.size w1 W2) := by subst eW2; exact box_below _ _
    have HEW2 : Hid (w1.alloc (.cells #[.slice na N nc, .slice fa F fc, .slice sa (stAll K A B F N).length sc, .slice (some ⟨ib, 0, none⟩) N N, .slice (some ⟨ob, 0, none⟩) N N] 61) = W2) := eW2.symm
    have C2 : Hid (Calls Try.prog 33 #[.agg #[.slice na N nc, .slice fa F fc, .slice sa (stAll K A B F N).length sc, .slice (some ⟨ib, 0, none⟩) N N, .slice (some ⟨ob, 0, none⟩) N N]] W2 fun e w' => Below W2.heap.size W2 w' ∧ ∃ g, e = .returned (.slice (some ⟨g, 0, none⟩) F F) ∧ w'.rowIs g 3 F (fun i => .int .i64 (bgn K A i))) := begin_any (hbrd.below HW2.out)
    clear eW2 hbrd
    go_wp2_with fail
    rw [HEW2.out]
    refine C2.out.mono ?_
    rintro e w2 ⟨hb2, g, rfl, hrow⟩
    have HF : Hid (Below w.heap.size w w2 ∧ Mk w2 g F (bgn K A)) := ⟨HBw1.out.trans ((HW2.out.trans (hb2.mono HW2.out.size)).mono HBw1.out.size), F, _, Nat.le_refl _, hrow, fun _ _ => rfl⟩
    clear hb2 hrow C2
    go_wp2
    go_ret2
    exact ⟨HF.out.1, Or.inr ⟨rfl, g, F, rfl, HF.out.2⟩⟩

set_option maxHeartbeats 1000000 in
theorem fireF_any {na fa : Option Addr} {N nc F fc : Nat} {M : Nat → ByteArray} {K A B : Nat → Int} {e0 : Int} {w : World} (hp : Prc w na N nc fa F M K A B) (he : ChkIs N F M K A B e0) {ma : Option Addr} {n mc : Nat} {m : Nat → Int} (hn : n ≤ 140737488355328) (hm : Row w ma n m) (step : Int) :
    Calls Try.prog 11 #[.agg #[.slice na N nc, .slice fa F fc], .slice ma n mc, .int .i64 step] w fun e w' => Below w.heap.size w w' ∧
      Ans (mkE (spE e0 (stAll K A B F N).length) (mkOk F n m)) (FiIs w.heap.size K A B F (stAll K A B F N) m step) e w' := by
  have HM : Hid (Row w ma n m) := hm
  obtain ⟨W, eW⟩ : ∃ x, x = w.alloc (.cells #[.slice na N nc, .slice fa F fc] 25) := ⟨_, rfl⟩
  have HW : Hid (Below w.heap.size w W) := by subst eW; exact box_below _ _
  have HEW : Hid (w.alloc (.cells #[.slice na N nc, .slice fa F fc] 25) = W) := eW.symm
  have C1 : Hid (Calls Try.prog 34 #[.agg #[.slice na N nc, .slice fa F fc], .slice ma n mc] W fun e w' => Below W.heap.size W w' ∧ LyIs W.heap.size (mkE (spE e0 (stAll K A B F N).length) (mkOk F n m)) na N nc fa F fc M K A B e w') := layMarked_any (hp.below HW.out) he hn (hm.below HW.out)
  clear eW hp he hm
  have HMk : Hid (mkE (spE e0 (stAll K A B F N).length) (mkOk F n m) = 0 → n = F ∧ ∀ i, i < n → 0 ≤ m i ∧ m i ≤ 9) := fun h => mkOk_all (mkE_zero h).2
  generalize hEE : mkE (spE e0 (stAll K A B F N).length) (mkOk F n m) = E at *
  go_enter Try.func11, Try.ntmps11
  go_wp2_with fail
  rw [HEW.out]
  refine C1.out.mono ?_
  rintro e w1 ⟨hb1, hs1⟩
  have HBw1 : Hid (Below w.heap.size w w1) := HW.out.trans (hb1.mono HW.out.size)
  clear hb1 C1
  rcases hs1 with ⟨h1, rfl⟩ | ⟨h1, sa, sc, ib, ob, _, _, rfl, hbrd⟩
  · have hz' : (E != 0) = true := by rw [bne_iff_ne]; exact h1
    have HZ : Hid (E ≠ 0) := h1
    clear h1
    go_wp2
    go_ret2
    exact ⟨HBw1.out.alloc HBw1.out.size _, Or.inl ⟨HZ.out, rfl⟩⟩
  · subst h1
    obtain ⟨rfl, h9⟩ := HMk.out rfl
    obtain ⟨W2, eW2⟩ : ∃ x, x = w1.alloc (.cells #[.slice na N nc, .slice fa n fc, .slice sa (stAll K A B n N).length sc, .slice (some ⟨ib, 0, none⟩) N N, .slice (some ⟨ob, 0, none⟩) N N] 61) := ⟨_, rfl⟩
    have HW2 : Hid (Below w1.heap.size w1 W2) := by subst eW2; exact box_below _ _
    have HEW2 : Hid (w1.alloc (.cells #[.slice na N nc, .slice fa n fc, .slice sa (stAll K A B n N).length sc, .slice (some ⟨ib, 0, none⟩) N N, .slice (some ⟨ob, 0, none⟩) N N] 61) = W2) := eW2.symm
    have HBw2 : Hid (Below w.heap.size w W2) := HBw1.out.trans (HW2.out.mono HBw1.out.size)
    have C2 : Hid (Calls Try.prog 36 #[.agg #[.slice na N nc, .slice fa n fc, .slice sa (stAll K A B n N).length sc, .slice (some ⟨ib, 0, none⟩) N N, .slice (some ⟨ob, 0, none⟩) N N], .slice ma n mc, .int .i64 step] W2 fun e w' => Below W2.heap.size W2 w' ∧ FiIs W2.heap.size K A B n (stAll K A B n N) m step e w') := fire_any (hbrd.below HW2.out) (HM.out.below HBw2.out) h9 step
    clear eW2 hbrd h9 HMk
    go_wp2_with fail
    rw [HEW2.out]
    refine C2.out.mono ?_
    rintro e w2 ⟨hb2, hf⟩
    obtain ⟨v1, v2, rfl⟩ := fi_tuple hf
    have HF : Hid (Below w.heap.size w w2 ∧ FiIs w.heap.size K A B n (stAll K A B n N) m step (.returned (.tuple #[v1, v2])) w2) := ⟨HBw2.out.trans (hb2.mono HBw2.out.size), hf.mono HBw2.out.size⟩
    clear hb2 hf C2
    go_wp2
    go_ret2
    exact ⟨HF.out.1, Or.inr ⟨rfl, HF.out.2⟩⟩

set_option maxHeartbeats 2000000 in
theorem enabledF_any {na fa : Option Addr} {N nc F fc : Nat} {M : Nat → ByteArray} {K A B : Nat → Int} {e0 : Int} {w : World} (hp : Prc w na N nc fa F M K A B) (he : ChkIs N F M K A B e0) {ma : Option Addr} {n mc : Nat} {m : Nat → Int} (hn : n ≤ 140737488355328) (hm : Row w ma n m)
    (X : Nat → Int) (hX : ∀ i, i < (stAll K A B F N).length → (X i = 1 ↔ enb K A B F m ((stAll K A B F N).getD i (0, 0, 0)))) :
    Calls Try.prog 10 #[.agg #[.slice na N nc, .slice fa F fc], .slice ma n mc] w fun e w' => Below w.heap.size w w' ∧
      Ans (mkE (spE e0 (stAll K A B F N).length) (mkOk F n m)) (Lst (tally X 1 (stAll K A B F N).length) (fun i => (fl X 1 (stAll K A B F N).length).getD i 0)) e w' := by
  have HM : Hid (Row w ma n m) := hm
  have HX : Hid (∀ i, i < (stAll K A B F N).length → (X i = 1 ↔ enb K A B F m ((stAll K A B F N).getD i (0, 0, 0)))) := hX
  obtain ⟨i0, hi, hz0, hz1, hz2⟩ := info_parts Try.info3
  have HI : Hid (Try.prog.info? 3 = some i0 ∧ i0.zero = some (.int .i64 0) ∧ i0.size = 1 ∧ i0.bytes = 8) := ⟨hi, hz0, hz1, hz2⟩
  obtain ⟨W, eW⟩ : ∃ x, x = w.alloc (.cells #[.slice na N nc, .slice fa F fc] 25) := ⟨_, rfl⟩
  have HW : Hid (Below w.heap.size w W) := by subst eW; exact box_below _ _
  have HEW : Hid (w.alloc (.cells #[.slice na N nc, .slice fa F fc] 25) = W) := eW.symm
  have C1 : Hid (Calls Try.prog 34 #[.agg #[.slice na N nc, .slice fa F fc], .slice ma n mc] W fun e w' => Below W.heap.size W w' ∧ LyIs W.heap.size (mkE (spE e0 (stAll K A B F N).length) (mkOk F n m)) na N nc fa F fc M K A B e w') := layMarked_any (hp.below HW.out) he hn (hm.below HW.out)
  clear eW hp he hm hX hi hz0 hz1 hz2
  have HMk : Hid (mkE (spE e0 (stAll K A B F N).length) (mkOk F n m) = 0 → n = F ∧ ∀ i, i < n → 0 ≤ m i ∧ m i ≤ 9) := fun h => mkOk_all (mkE_zero h).2
  generalize hEE : mkE (spE e0 (stAll K A B F N).length) (mkOk F n m) = E at *
  go_enter Try.func10, Try.ntmps10
  go_wp2_with fail
  rw [HEW.out]
  refine C1.out.mono ?_
  rintro e w1 ⟨hb1, hs1⟩
  have HBw1 : Hid (Below w.heap.size w w1) := HW.out.trans (hb1.mono HW.out.size)
  clear hb1 C1
  rcases hs1 with ⟨h1, rfl⟩ | ⟨h1, sa, sc, ib, ob, _, _, rfl, hbrd⟩
  · have hz' : (E != 0) = true := by rw [bne_iff_ne]; exact h1
    have HZ : Hid (E ≠ 0) := h1
    clear h1
    go_wp2
    go_ret2
    exact ⟨HBw1.out.alloc HBw1.out.size _, Or.inl ⟨HZ.out, rfl⟩⟩
  · subst h1
    obtain ⟨rfl, _⟩ := HMk.out rfl
    have hfew := hbrd.few
    have HLis : Hid (∀ i, i < (stAll K A B n N).length → (stAll K A B n N).getD i (0, 0, 0) ∈ stAll K A B n N) := fun i hi => getD3_mem hi
    obtain ⟨la, hla⟩ : ∃ q, q = stAll K A B n N := ⟨_, rfl⟩
    have HLa : Hid (la = stAll K A B n N) := hla
    obtain ⟨W2, eW2⟩ : ∃ x, x = w1.alloc (.cells #[.slice na N nc, .slice fa n fc, .slice sa (stAll K A B n N).length sc, .slice (some ⟨ib, 0, none⟩) N N, .slice (some ⟨ob, 0, none⟩) N N] 61) := ⟨_, rfl⟩
    have HW2 : Hid (Below w1.heap.size w1 W2) := by subst eW2; exact box_below _ _
    have HBw2 : Hid (Below w.heap.size w W2) := HBw1.out.trans (HW2.out.mono HBw1.out.size)
    have HBx : Hid (∀ u, Below W2.heap.size W2 u → u.cell? ⟨w1.heap.size, 0, none⟩ = some (.slice na N nc) ∧ u.cell? ⟨w1.heap.size, 1, none⟩ = some (.slice fa n fc) ∧ u.cell? ⟨w1.heap.size, 2, none⟩ = some (.slice sa (stAll K A B n N).length sc) ∧ u.cell? ⟨w1.heap.size, 3, none⟩ = some (.slice (some ⟨ib, 0, none⟩) N N) ∧ u.cell? ⟨w1.heap.size, 4, none⟩ = some (.slice (some ⟨ob, 0, none⟩) N N)) := fun u hu => by
      subst eW2
      exact ⟨new_alloc hu rfl, new_alloc hu rfl, new_alloc hu rfl, new_alloc hu rfl, new_alloc hu rfl⟩
    have HWsz : Hid (W2.heap.size = w1.heap.size + 1) := by subst eW2; show _ = _; simp
    have HEW2 : Hid (w1.alloc (.cells #[.slice na N nc, .slice fa n fc, .slice sa (stAll K A B n N).length sc, .slice (some ⟨ib, 0, none⟩) N N, .slice (some ⟨ob, 0, none⟩) N N] 61) = W2) := eW2.symm
    have HBrd : Hid (Brd W2 na N nc fa n sa (some ⟨ib, 0, none⟩) (some ⟨ob, 0, none⟩) M K A B (stAll K A B n N)) := hbrd.below HW2.out
    clear eW2 hbrd HMk
    rw [← hla] at hfew HBx HEW2 HBrd HX HLis ⊢
    clear hla
    go_wp2
    rw [HEW2.out]
    go_loopw [8, 23] (fun v i wr => ∃ (k : Nat) (va : Option Addr) (vc : Nat), k ≤ la.length ∧ i = .int .i64 k ∧ v = .slice va (tally X 1 k) vc ∧ Hid (Below W2.heap.size W2 wr ∧ wr.ownsRow W2.heap.size 3 1 (.slice va (tally X 1 k) vc) (tally X 1 k) (vals (fl X 1 k)))) (fun _ i _ => la.length - (intOf i).toNat)
    case atStart => exact ⟨0, none, 0, Nat.zero_le _, rfl, rfl, hid ⟨Below.refl _ _, World.ownsRow_nil _ _ _ _⟩⟩
    case round =>
      obtain ⟨k, va, vc, hk, rfl, rfl, HS⟩ := hrel
      have HBw : Hid (Below w.heap.size w wr) := HBw2.out.trans (HS.out.1.mono HBw2.out.size)
      by_cases hlt : k < la.length
      · obtain ⟨sb, so, hsa, hsc⟩ := HBrd.out.sts
        obtain rfl := hsa (by omega)
        obtain ⟨hc0, hc1, hc2⟩ := Sts.at hsc HS.out.1 hlt
        have hmem := HLis.out k hlt
        rw [HLa.out] at hmem
        obtain ⟨j, hj, ht1, ht2, ht3, ht4⟩ := step_facts hmem
        rw [← HLa.out] at ht1 ht2 ht3 ht4
        have HXk1 := HX.out k hlt
        obtain ⟨t, ht⟩ : ∃ t, t = la.getD k (0, 0, 0) := ⟨_, rfl⟩
        rw [← ht] at ht1 ht2 ht3 ht4 hc0 hc1 hc2 HXk1
        obtain ⟨t1, x, o⟩ := t
        simp only at ht1 ht2 ht3 ht4 hc0 hc1 hc2
        subst ht1
        have hxn : x < (n : Int) := by
          have h0 := chk_some HBrd.out.chk
          rcases ht2 with h2 | ⟨q, h2, h5, _⟩ <;> omega
        have HXk2 : Hid (X k = 1 ↔ enb K A B n m ((j : Int), x, o)) := HXk1
        have hsl : sb < wr.heap.size := World.block_lt_of_cell? _ _ hc0
        obtain ⟨a0, a1, a2, a3, a4⟩ := HBx.out wr HS.out.1
        have hs1 : w1.heap.size < wr.heap.size := by have := HS.out.1.size; have := HWsz.out; omega
        obtain ⟨U, eU⟩ : ∃ u, u = wr.alloc (.cells #[.int .i64 j, .int .i64 x, .int .i64 o] 41) := ⟨_, rfl⟩
        have HU : Hid (Below wr.heap.size wr U) := by subst eU; exact box_below _ _
        have HEU : Hid (wr.alloc (.cells #[.int .i64 j, .int .i64 x, .int .i64 o] 41) = U) := eU.symm
        have HB2 : Hid (Below W2.heap.size W2 U) := HS.out.1.trans (HU.out.mono HS.out.1.size)
        have C3 : Hid (Calls Try.prog 35 #[.agg #[.slice na N nc, .slice fa n fc, .slice (some ⟨sb, so, none⟩) la.length sc, .slice (some ⟨ib, 0, none⟩) N N, .slice (some ⟨ob, 0, none⟩) N N], .slice ma n mc, .agg #[.int .i64 j, .int .i64 x, .int .i64 o]] U fun e w' => Told (enb K A B n m ((j : Int), x, o)) e ∧ Below U.heap.size U w') := isEnabled_any (HBrd.out.below HB2.out) (HM.out.below (HBw.out.trans (HU.out.mono HBw.out.size))) hj hxn
        clear ht2 ht3 ht4 ht HXk1 hmem hsc hsa eU
        have htl := tally_le X 1 k
        go_wp2_with fail
        rw [HEU.out]
        refine C3.out.mono ?_
        rintro e w3 ⟨⟨z, rfl, hz⟩, hb3⟩
        have HB3 : Hid (Below W2.heap.size W2 w3) := HB2.out.trans (hb3.mono HB2.out.size)
        have HO3 : Hid (w3.ownsRow W2.heap.size 3 1 (.slice va (tally X 1 k) vc) (tally X 1 k) (vals (fl X 1 k))) := below_ownsRow (below_ownsRow HS.out.2 HU.out) hb3
        have HSz3 : Hid (W2.heap.size ≤ w3.heap.size) := HB3.out.size
        have HZ : Hid (z = true ↔ X k = 1) := hz.trans HXk2.out.symm
        clear hz hb3 C3 hc0 hc1 hc2 a0 a1 a2 a3 a4
        cases hzz : z
        · have HXk : Hid (X k ≠ 1) := fun hh => by have := HZ.out.2 hh; rw [hzz] at this; cases this
          clear hzz HZ
          go_wp2
          go_roundw
          case rel => exact ⟨k + 1, va, vc, by omega, by go_num, by rw [tally_miss HXk.out], hid ⟨HB3.out, by have := HO3.out; rw [tally_miss HXk.out, fl_miss HXk.out]; exact this⟩⟩
          case measure => simp [intOf]; omega
        · have HXk : Hid (X k = 1) := HZ.out.1 hzz
          clear hzz HZ
          go_wp2_with (at_builtin; refine wpList_append_own_at _ rfl _ _ 26 rfl W2.heap.size 3 i0 (.int .i64 0) 1 8 Try.underlying26 HI.out.1 HI.out.2.1 HI.out.2.2.1 HI.out.2.2.2 rfl (by decide) _ _ _ rfl (HO3.out.alloc _) ⟨w3.heap.size, 0, none⟩ 1 1 [.int .i64 k] rfl rfl (cell_one_new _ _ _) (ints_oneCell .i64 [(k : Int)]) (by unfold maxLen; omega) (by omega) (by have := HSz3.out; simp; omega) ?_; intro v' w4 hown hgrow _ _; obtain ⟨⟨a4, c4, rfl⟩, H4⟩ := fl_step HB3.out HO3.out HXk.out hown hgrow; clear hown hgrow)
          go_roundw
          case rel => exact ⟨k + 1, a4, c4, by omega, by go_num, by rw [tally_hit HXk.out], hid ⟨H4.out.1, by have := H4.out.2; rw [tally_hit HXk.out] at this ⊢; exact this⟩⟩
          case measure => simp [intOf]; omega
      · obtain rfl : la.length = k := by omega
        go_wp2
        go_ret2
        rw [← HLa.out]
        exact ⟨HBw.out, Or.inr ⟨rfl, va, vc, rfl, fl_row HS.out.2⟩⟩

end Go.Proofs.Ytpbmbhdnalijhaa
