/- The document's Fire. -/
import Derived.Test.YthpbgfodejoecaaRefMayJ
import Derived.Test.YthpbgfodejoecaaRefSteps
namespace Go.Proofs.Ythpbgfodejoecaa
open Go.RowKit

set_option maxHeartbeats 1000000 in
theorem flowsOut_own (na fa : Option Addr) (N nc F fc : Nat) (A B : Nat → Int) (x : Int) (w : World) (hf : Fls w fa F A B) (hF : F ≤ 30) :
    Calls Try.prog 55 #[.agg #[.slice na N nc, .slice fa F fc], .int .i64 x] w fun e w' => Below w.heap.size w w' ∧ ∃ a c, e = .returned (.slice a (tally A x F) c) ∧ w'.ownsRow w.heap.size 3 1 (.slice a (tally A x F) c) (tally A x F) (vals (fl A x F)) := by
  have HF : Hid (Fls w fa F A B) := hf
  clear hf
  obtain ⟨i0, hi, hz0, hz1, hz2⟩ := info_parts Try.info3
  have HI : Hid (Try.prog.info? 3 = some i0 ∧ i0.zero = some (.int .i64 0) ∧ i0.size = 1 ∧ i0.bytes = 8) := ⟨hi, hz0, hz1, hz2⟩
  clear hi hz0 hz1 hz2
  obtain ⟨W, eW⟩ : ∃ x, x = w.alloc (.cells #[.slice na N nc, .slice fa F fc] 25) := ⟨_, rfl⟩
  have HW : Hid (Below w.heap.size w W ∧ W.heap.size = w.heap.size + 1) := by subst eW; exact ⟨box_below _ _, by simp⟩
  have HBx : Hid (∀ w1, Below W.heap.size W w1 → w1.cell? ⟨w.heap.size, 0, none⟩ = some (.slice na N nc) ∧ w1.cell? ⟨w.heap.size, 1, none⟩ = some (.slice fa F fc)) := fun w1 h => by
    have h' : Below (w.heap.size + 1) (w.alloc (.cells #[.slice na N nc, .slice fa F fc] 25)) w1 := by rw [← HW.out.2, ← eW]; exact h
    exact ⟨box_keep h' rfl, box_keep h' rfl⟩
  have HEW : Hid (w.alloc (.cells #[.slice na N nc, .slice fa F fc] 25) = W) := eW.symm
  clear eW
  go_enter Try.func55, Try.ntmps55
  go_wp2
  rw [HEW.out]
  go_loopw [5, 6] (fun v i wr => ∃ (k : Nat) (va : Option Addr) (vc : Nat), k ≤ F ∧ i = .int .i64 k ∧ v = .slice va (tally A x k) vc ∧ Hid (Below W.heap.size W wr ∧ wr.ownsRow W.heap.size 3 1 (.slice va (tally A x k) vc) (tally A x k) (vals (fl A x k)))) (fun _ i _ => F - (intOf i).toNat)
  case atStart => exact ⟨0, none, 0, Nat.zero_le _, rfl, rfl, hid ⟨Below.refl _ _, World.ownsRow_nil _ _ _ _⟩⟩
  case round =>
    obtain ⟨k, va, vc, hk, rfl, rfl, HS⟩ := hrel
    have HBw : Hid (Below w.heap.size w wr) := HW.out.1.trans (HS.out.1.mono HW.out.1.size)
    obtain ⟨hc0, hc1⟩ := HBx.out wr HS.out.1
    by_cases hlt : k < F
    · obtain ⟨b, o, ha, hc⟩ := HF.out
      obtain rfl := ha (by omega)
      obtain ⟨h1, h2⟩ := Fls.at hc HBw.out hlt
      clear hc ha
      have hfz := tally_le A x k
      have hkz : (k : Int) < F := by omega
      have HSz : Hid (W.heap.size ≤ wr.heap.size) := HS.out.1.size
      by_cases hX : A k = x
      · have HXk : Hid (A k = x) := hX
        have hX' : (A k == x) = true := beq_iff_eq.2 hX
        have HO : Hid (wr.ownsRow W.heap.size 3 1 (.slice va (tally A x k) vc) (tally A x k) (vals (fl A x k))) := HS.out.2
        clear hX
        go_wp2_with (at_builtin; refine wpList_append_own_at _ rfl _ _ 26 rfl W.heap.size 3 i0 (.int .i64 0) 1 8 Try.underlying26 HI.out.1 HI.out.2.1 HI.out.2.2.1 HI.out.2.2.2 rfl (by decide) _ _ _ rfl (HO.out.alloc _) ⟨wr.heap.size, 0, none⟩ 1 1 [.int .i64 k] rfl rfl (cell_one_new _ _ _) (ints_oneCell .i64 [(k : Int)]) (by unfold maxLen; omega) (by omega) (by have := HSz.out; simp; omega) ?_; intro v' w4 hown hgrow _ _; obtain ⟨⟨a4, c4, rfl⟩, H4⟩ := fl_step HS.out.1 HO.out HXk.out hown hgrow; clear hown hgrow)
        go_roundw
        case rel => exact ⟨k + 1, a4, c4, by omega, by go_num, by rw [tally_hit HXk.out], hid ⟨H4.out.1, by have := H4.out.2; rw [tally_hit HXk.out] at this ⊢; exact this⟩⟩
        case measure => simp [intOf]; omega
      · have HXk : Hid (A k ≠ x) := hX
        have hX' : (A k == x) = false := beq_eq_false_iff_ne.2 hX
        clear hX
        go_wp2
        go_roundw
        case rel => exact ⟨k + 1, va, vc, by omega, by go_num, by rw [tally_miss HXk.out], hid ⟨HS.out.1, by have := HS.out.2; rw [tally_miss HXk.out, fl_miss HXk.out]; exact this⟩⟩
        case measure => simp [intOf]; omega
    · obtain rfl : F = k := by omega
      go_wp2
      go_ret
      exact ⟨HBw.out, _, _, rfl, owns_base HS.out.2 HW.out.1.size⟩

/-- What Fire has laid till flow k. -/
def fz (K A B : Nat → Int) (t : St3) (m : Nat → Int) (k j : Nat) : Int := if j < k then frs K A B t m j else 0

/-- What is put on flow k by the first q flows out. -/
def gq (A : Nat → Int) (n o : Int) (k q : Nat) : Int := if A k = n ∧ tally A n k < q ∧ bit o (tally A n k) = true then 1 else 0

theorem gq_zero (A : Nat → Int) (n o : Int) (k : Nat) : gq A n o k 0 = 0 := by unfold gq; rw [if_neg (by omega)]

theorem gq_hit {A : Nat → Int} {n o : Int} {k q : Nat} (h1 : A k = n) (h2 : tally A n k = q) (h3 : bit o q = true) : gq A n o k (q + 1) = 1 ∧ gq A n o k q = 0 := by
  unfold gq
  exact ⟨by rw [if_pos ⟨h1, by omega, by rw [h2]; exact h3⟩], by rw [if_neg (by omega)]⟩

theorem gq_bit {A : Nat → Int} {n o : Int} {k q : Nat} (h2 : tally A n k = q) (h3 : bit o q = false) : gq A n o k (q + 1) = gq A n o k q := by
  unfold gq
  rw [if_neg (fun h => by rw [h2, h3] at h; exact absurd h.2.2 (by decide)), if_neg (by omega)]

theorem gq_other {A : Nat → Int} {n o : Int} {k q : Nat} (h : ¬ (A k = n ∧ tally A n k = q)) : gq A n o k (q + 1) = gq A n o k q := by
  unfold gq
  by_cases c : A k = n ∧ tally A n k < q ∧ bit o (tally A n k) = true
  · rw [if_pos c, if_pos ⟨c.1, by omega, c.2.2⟩]
  · rw [if_neg c, if_neg]
    intro c2
    refine c ⟨c2.1, ?_, c2.2.2⟩
    have : tally A n k ≠ q := fun e => h ⟨c2.1, e⟩
    omega

theorem gq_or (A : Nat → Int) (n o : Int) (k q : Nat) : gq A n o k q = 0 ∨ gq A n o k q = 1 := by unfold gq; split <;> omega

theorem gq_full {K A B : Nat → Int} {n : Nat} {x o : Int} {F k : Nat} {m : Nat → Int} {z : Int} (hk : k < F) (hK : K n ≠ 3) (hz : z = tkn B ((n : Int), x, o) m k) : z + gq A n o k (tally A n F) = frs K A B ((n : Int), x, o) m k := by
  have e1 : frs K A B ((n : Int), x, o) m k = gvn A ((n : Int), x, o) (tkn B ((n : Int), x, o) m) k := by unfold frs; rw [if_neg (by simpa using hK)]
  rw [e1]
  unfold gq gvn
  by_cases c : A k = n ∧ bit o (tally A n k) = true
  · rw [if_pos ⟨c.1, place_lt hk c.1, c.2⟩, if_pos c, hz]
  · rw [if_neg (fun h => c ⟨h.1, h.2.2⟩), if_neg c, hz]
    omega

theorem fz_next {K A B : Nat → Int} {t : St3} {m : Nat → Int} {k : Nat} {v : Int} (hv : v = frs K A B t m k) (j : Nat) : upd (fz K A B t m k) k v j = fz K A B t m (k + 1) j := by
  unfold upd fz
  by_cases e : j = k
  · subst e
    rw [if_pos rfl, if_pos (by omega), hv]
  · rw [if_neg e]
    by_cases c : j < k
    · rw [if_pos c, if_pos (by omega)]
    · rw [if_neg c, if_neg (by omega)]

theorem upd_upd (Z : Nat → Int) (k : Nat) (a b : Int) (j : Nat) : upd (upd Z k a) k b j = upd Z k b j := by
  unfold upd
  by_cases e : j = k
  · rw [if_pos e, if_pos e]
  · rw [if_neg e, if_neg e, if_neg e]

/-- What Fire answers, at an enabled step. -/
def RfIs (K A B : Nat → Int) (F : Nat) (m : Nat → Int) (t : St3) (e : Ending) (w : World) : Prop :=
  ((∃ j, j < F ∧ 9 < frs K A B t m j) ∧ e = .returned (.tuple #[.slice none 0 0, .int .i64 7])) ∨ ((∀ j, j < F → frs K A B t m j ≤ 9) ∧ ∃ g c, e = .returned (.tuple #[.slice (some ⟨g, 0, none⟩) F c, .int .i64 0]) ∧ Mk w g F (frs K A B t m))

/-- The error till flow k. -/
def ErK (K A B : Nat → Int) (m : Nat → Int) (t : St3) (k : Nat) (y : Int) : Prop := (y = 0 ∧ ∀ j, j < k → frs K A B t m j ≤ 9) ∨ (y = 7 ∧ ∃ j, j < k ∧ 9 < frs K A B t m j)

theorem ErK.more {K A B : Nat → Int} {m : Nat → Int} {t : St3} {k : Nat} {y : Int} (h : ErK K A B m t k y) (hk : frs K A B t m k ≤ 9) : ErK K A B m t (k + 1) y := by
  rcases h with ⟨h1, h2⟩ | ⟨h1, j, h2, h3⟩
  · exact Or.inl ⟨h1, snoc_all h2 hk⟩
  · exact Or.inr ⟨h1, j, by omega, h3⟩

theorem ErK.bad {K A B : Nat → Int} {m : Nat → Int} {t : St3} {k : Nat} (hk : 9 < frs K A B t m k) : ErK K A B m t (k + 1) 7 := Or.inr ⟨rfl, k, by omega, hk⟩

theorem tkn_at {B : Nat → Int} {n x o : Int} {m : Nat → Int} {k : Nat} (h : B k = n ∧ (x = k ∨ x < 0 ∧ 0 < m k)) : tkn B (n, x, o) m k = m k - 1 := by
  unfold tkn
  rw [if_pos]
  rcases h.2 with h1 | h1
  · exact Or.inl ⟨by show 0 ≤ x; omega, h1.symm⟩
  · exact Or.inr ⟨h1.1, h.1, h1.2⟩

theorem tkn_not {B : Nat → Int} {n x o : Int} {m : Nat → Int} {k : Nat} (hBx : ∀ q : Nat, x = q → B q = n) (h : ¬ (B k = n ∧ (x = k ∨ x < 0 ∧ 0 < m k))) : tkn B (n, x, o) m k = m k := by
  unfold tkn
  rw [if_neg]
  rintro (⟨_, h1⟩ | ⟨h1, h2, h3⟩)
  · have h1' : (k : Int) = x := h1
    exact h ⟨hBx k h1'.symm, Or.inl h1'.symm⟩
  · exact h ⟨h2, Or.inr ⟨h1, h3⟩⟩

set_option maxRecDepth 20000 in
set_option maxHeartbeats 8000000 in
theorem fireRef_any {na fa : Option Addr} {N nc F fc : Nat} {M : Nat → ByteArray} {K A B : Nat → Int} {w : World} (hp : Prc w na N nc fa F M K A B) (hF30 : F ≤ 30) {ma : Option Addr} {mc : Nat} {m : Nat → Int} (hm : Row w ma F m) (h9 : ∀ i, i < F → 0 ≤ m i ∧ m i ≤ 9) {n : Nat} (hn : n < N) {x o : Int} (hBx : ∀ q : Nat, x = q → B q = n) (ho0 : 0 ≤ o) :
    Calls Try.prog 31 #[.agg #[.slice na N nc, .slice fa F fc], .slice ma F mc, .agg #[.int .i64 n, .int .i64 x, .int .i64 o]] w fun e w' => Below w.heap.size w w' ∧ RfIs K A B F m ((n : Int), x, o) e w' := by
  have HP : Hid (Prc w na N nc fa F M K A B) := hp
  have H9 : Hid (∀ i, i < F → 0 ≤ m i ∧ m i ≤ 9) := h9
  have HBx0 : Hid (∀ q : Nat, x = q → B q = n) := hBx
  obtain ⟨mb, mo, hma, hmc⟩ := hm
  have HM : Hid (∀ i, i < F → w.cell? ⟨mb, mo + i, none⟩ = some (.int .i64 (m i))) := hmc
  have hmk := run_make_row' (P := Try.prog) 26 3 (.int .i64 0) 8 Try.underlying26 Try.info3 rfl .i64 .i64 F (by omega) (by omega)
  obtain ⟨W, eW⟩ : ∃ u, u = ((w.alloc (.cells #[.slice na N nc, .slice fa F fc] 25)).alloc (.cells #[.int .i64 n, .int .i64 x, .int .i64 o] 66)).alloc (.cells (madeCells #[.int .i64 0] F) 3) := ⟨_, rfl⟩
  have HW : Hid (Below w.heap.size w W ∧ W.heap.size = w.heap.size + 1 + 1 + 1 ∧ Mk W (w.heap.size + 1 + 1) F (fun _ => 0)) := by
    subst eW
    have e2 : ((w.alloc (.cells #[.slice na N nc, .slice fa F fc] 25)).alloc (.cells #[.int .i64 n, .int .i64 x, .int .i64 o] 66)).heap.size = w.heap.size + 1 + 1 := by simp
    refine ⟨(box_below _ _).trans (((box_below _ _).mono (by simp)).trans ((box_below _ _).mono (by simp; omega))), by simp, ?_⟩
    rw [← e2]
    exact mk_made _ F
  have HBx : Hid (W.cell? ⟨w.heap.size, 0, none⟩ = some (.slice na N nc) ∧ W.cell? ⟨w.heap.size, 1, none⟩ = some (.slice fa F fc) ∧ W.cell? ⟨w.heap.size + 1, 0, none⟩ = some (.int .i64 n) ∧ W.cell? ⟨w.heap.size + 1, 1, none⟩ = some (.int .i64 x) ∧ W.cell? ⟨w.heap.size + 1, 2, none⟩ = some (.int .i64 o)) := by
    subst eW
    have e1 : (w.alloc (.cells #[.slice na N nc, .slice fa F fc] 25)).heap.size = w.heap.size + 1 := by simp
    have k2 : ∀ i v, (#[.int .i64 n, .int .i64 x, .int .i64 o] : Array Value)[i]? = some v → ((w.alloc (.cells #[.slice na N nc, .slice fa F fc] 25)).alloc (.cells #[.int .i64 n, .int .i64 x, .int .i64 o] 66)).cell? ⟨w.heap.size + 1, i, none⟩ = some v := fun i v hv => by rw [← e1]; exact cell_of_alloc hv
    exact ⟨keep_alloc (Below.refl _ _) (keep_alloc (Below.refl _ _) (cell_of_alloc rfl)), keep_alloc (Below.refl _ _) (keep_alloc (Below.refl _ _) (cell_of_alloc rfl)), keep_alloc (Below.refl _ _) (k2 0 _ rfl), keep_alloc (Below.refl _ _) (k2 1 _ rfl), keep_alloc (Below.refl _ _) (k2 2 _ rfl)⟩
  have HEW : Hid (((w.alloc (.cells #[.slice na N nc, .slice fa F fc] 25)).alloc (.cells #[.int .i64 n, .int .i64 x, .int .i64 o] 66)).alloc (.cells (madeCells #[.int .i64 0] F) 3) = W) := eW.symm
  obtain ⟨nb, no, hna, hnc⟩ := hp.nds
  obtain rfl := hna (by omega)
  have hkn := (hnc n hn).2
  have hnbl : nb < w.heap.size := World.block_lt_of_cell? _ _ hkn
  have hnb1 : nb < w.heap.size + 1 := by omega
  have hnb2 : nb < w.heap.size + 1 + 1 := by omega
  have hnN : (n : Int) < N := by omega
  clear eW hp hmc h9 hBx hna hnc
  by_cases hK : K n = 3
  · have hK' : (K n == 3) = true := beq_iff_eq.2 hK
    have HFr : Hid (∀ j, frs K A B ((n : Int), x, o) m j = 0) := fun j => by unfold frs; rw [if_pos (by simpa using hK)]
    clear hK
    go_enter Try.func31, Try.ntmps31
    go_wp2
    go_ret2
    rw [HEW.out]
    exact ⟨HW.out.1, Or.inr ⟨fun j _ => by rw [HFr.out j]; decide, _, _, rfl, HW.out.2.2.congr (fun i _ => (HFr.out i).symm)⟩⟩
  · have hK' : (K n == 3) = false := beq_eq_false_iff_ne.2 hK
    have HK3 : Hid (K n ≠ 3) := hK
    have C1 : Hid (Calls Try.prog 55 #[.agg #[.slice (some ⟨nb, no, none⟩) N nc, .slice fa F fc], .int .i64 n] W fun e w' => Below W.heap.size W w' ∧ ∃ a c, e = .returned (.slice a (tally A n F) c) ∧ w'.ownsRow W.heap.size 3 1 (.slice a (tally A n F) c) (tally A n F) (vals (fl A n F))) := flowsOut_own _ fa N nc F fc A B n W (HP.out.below HW.out.1).fls hF30
    have htl := tally_le A n F
    clear hK
    go_enter Try.func31, Try.ntmps31
    go_wp2_with fail
    rw [HEW.out]
    refine C1.out.mono ?_
    rintro e w1 ⟨hb1, oa, oc, rfl, hr1⟩
    obtain ⟨g, hg⟩ : ∃ g, g = w.heap.size + 1 + 1 := ⟨_, rfl⟩
    have HB1 : Hid (Below w.heap.size w w1) := HW.out.1.trans (hb1.mono HW.out.1.size)
    have HMk1 : Hid (Mk w1 g F (fz K A B ((n : Int), x, o) m 0)) := by rw [hg]; exact (HW.out.2.2.below hb1).congr (fun i _ => by unfold fz; rw [if_neg (by omega)])
    have HOut : Hid (Row w1 oa (tally A n F) (fun i => (fl A n F).getD i 0) ∧ ∀ b o', oa = some ⟨b, o', none⟩ → b ≠ g) := by
      refine ⟨fl_row hr1, fun b o' e => ?_⟩
      have h2 := (hr1.lt b (by rw [e]; rfl)).1
      have := HW.out.2.1
      omega
    have HBo : Hid (w1.cell? ⟨w.heap.size, 1, none⟩ = some (.slice fa F fc) ∧ w1.cell? ⟨w.heap.size + 1, 0, none⟩ = some (.int .i64 n) ∧ w1.cell? ⟨w.heap.size + 1, 1, none⟩ = some (.int .i64 x) ∧ w1.cell? ⟨w.heap.size + 1, 2, none⟩ = some (.int .i64 o)) := by
      have hs := HW.out.2.1
      obtain ⟨_, h1, h2, h3, h4⟩ := HBx.out
      refine ⟨?_, ?_, ?_, ?_⟩
      · rw [hb1.cell (p := ⟨w.heap.size, 1, none⟩) (by show w.heap.size < _; omega)]; exact h1
      · rw [hb1.cell (p := ⟨w.heap.size + 1, 0, none⟩) (by show w.heap.size + 1 < _; omega)]; exact h2
      · rw [hb1.cell (p := ⟨w.heap.size + 1, 1, none⟩) (by show w.heap.size + 1 < _; omega)]; exact h3
      · rw [hb1.cell (p := ⟨w.heap.size + 1, 2, none⟩) (by show w.heap.size + 1 < _; omega)]; exact h4
    have HGe : Hid (g = w.heap.size + 1 + 1) := hg
    rw [← hg]
    clear hb1 hr1 C1 hmk hkn hnbl hg
    go_wp2
    go_loopw [10, 11] (fun y i wr => ∃ (k : Nat) (z : Int), k ≤ F ∧ i = .int .i64 k ∧ y = .int .i64 z ∧ Hid (ErK K A B m ((n : Int), x, o) k z) ∧ Hid (w1.grownBy wr (some g) ∧ Mk wr g F (fz K A B ((n : Int), x, o) m k))) (fun _ i _ => F - (intOf i).toNat)
    case atStart => exact ⟨0, 0, Nat.zero_le _, rfl, rfl, Or.inl ⟨rfl, fun j hj => by omega⟩, hid ⟨grown_refl _ _, HMk1.out⟩⟩
    case round =>
      obtain ⟨k, y, hk, rfl, rfl, HEr, HT⟩ := hrel
      have HBr : Hid (Below w.heap.size w wr) := HB1.out.grown HT.out.1 HB1.out.size (fun q e => by cases e; have := HGe.out; omega)
      by_cases hlt : k < F
      · obtain rfl := hma (by omega)
        have hge := HGe.out
        have hmbl : mb < w.heap.size := World.block_lt_of_cell? _ _ (HM.out k hlt)
        have d1 := row_at HM.out HBr.out hlt
        obtain ⟨fb, fo, hfa, hfc⟩ := HP.out.fls
        obtain rfl := hfa (by omega)
        have d2 := (Fls.at hfc HBr.out hlt).2
        have hfbl : fb < w.heap.size := World.block_lt_of_cell? _ _ (hfc k hlt).2
        have d3 : wr.cell? ⟨w.heap.size, 1, none⟩ = some (.slice (some ⟨fb, fo, none⟩) F fc) := HT.out.1.cell (a := ⟨w.heap.size, 1, none⟩) HBo.out.1 (fun e => by have := Option.some.inj e; simp at this; omega)
        have d4 : wr.cell? ⟨w.heap.size + 1, 0, none⟩ = some (.int .i64 n) := HT.out.1.cell (a := ⟨w.heap.size + 1, 0, none⟩) HBo.out.2.1 (fun e => by have := Option.some.inj e; simp at this; omega)
        have d5 : wr.cell? ⟨w.heap.size + 1, 1, none⟩ = some (.int .i64 x) := HT.out.1.cell (a := ⟨w.heap.size + 1, 1, none⟩) HBo.out.2.2.1 (fun e => by have := Option.some.inj e; simp at this; omega)
        have d6 : wr.cell? ⟨g, k, none⟩ = some (.int .i64 (fz K A B ((n : Int), x, o) m k k)) := HT.out.2.cell hlt
        have d7 := HT.out.2.frozen k
        have hki : (k : Int) < F := by omega
        have h9k := H9.out k hlt
        have ne1 : mb ≠ g := by omega
        have ne2 : fb ≠ g := by omega
        have ne3 : w.heap.size ≠ g := by omega
        have ne4 : w.heap.size + 1 ≠ g := by omega
        clear hfa hfc hge
        by_cases hB : B k = n
        · by_cases hxk : x = k
          · have b1 : (B k == (n : Int)) = true := beq_iff_eq.2 hB
            have b2 : (x == (k : Int)) = true := beq_iff_eq.2 hxk
            have HTk : Hid (B k = n ∧ (x = k ∨ x < 0 ∧ 0 < m k)) := ⟨hB, Or.inl hxk⟩
            clear hB hxk
            have HZ : Hid (tkn B ((n : Int), x, o) m k = (m k - 1)) := tkn_at (HTk.out)
            have HL : Hid (∀ nq, w1.grownBy (((wr.setCell ⟨g, k, none⟩ (.int .i64 (m k))).drewN nq).setCell ⟨g, k, none⟩ (.int .i64 (m k - 1))) (some g) ∧ Mk (((wr.setCell ⟨g, k, none⟩ (.int .i64 (m k))).drewN nq).setCell ⟨g, k, none⟩ (.int .i64 (m k - 1))) g F (upd (fz K A B ((n : Int), x, o) m k) k ((m k - 1) + gq A n o k 0))) := fun nq => by
              have h1 : w1.grownBy (wr.setCell ⟨g, k, none⟩ (.int .i64 (m k))) (some g) := grown_set HT.out.1 _ _
              have h2 : w1.grownBy ((wr.setCell ⟨g, k, none⟩ (.int .i64 (m k))).drewN nq) (some g) := ⟨h1.os, h1.tape, h1.output, h1.size, h1.block⟩
              have m1 : Mk ((wr.setCell ⟨g, k, none⟩ (.int .i64 (m k))).drewN nq) g F (upd (fz K A B ((n : Int), x, o) m k) k (m k)) := Mk.of_block (HT.out.2.set k _) rfl
              exact ⟨grown_set h2 _ _, (m1.set k _).congr (fun i _ => by rw [upd_upd, gq_zero, Int.add_zero])⟩
            go_wp2
            go_quiet (fail)
            go_wp2
            clear d1 d2 d3 d4 d5 d6 d7
            go_loopw [12] (fun i wr => ∃ q : Nat, q ≤ tally A n F ∧ i = .int .i64 q ∧ Hid (w1.grownBy wr (some g) ∧ Mk wr g F (upd (fz K A B ((n : Int), x, o) m k) k ((m k - 1) + gq A n o k q)))) (fun i _ => tally A n F - (intOf i).toNat)
            case atStart => exact ⟨0, Nat.zero_le _, rfl, HL.out _⟩
            case round =>
              obtain ⟨q, hq, rfl, HQ⟩ := hrel
              have hge := HGe.out
              have hgq := gq_or A n o k q
              obtain ⟨v, hv⟩ : ∃ v, v = (m k - 1) + gq A n o k q := ⟨_, rfl⟩
              have hvb : -1 ≤ v ∧ v ≤ 10 := by omega
              have HV : Hid (v = (m k - 1) + gq A n o k q) := hv
              have hc3 : wr.cell? ⟨g, k, none⟩ = some (.int .i64 v) := by
                have h1 := HQ.out.2.cell hlt
                rw [← hv] at h1
                rw [h1]
                unfold upd
                rw [if_pos rfl]
              have hc4 := HQ.out.2.frozen k
              have hc2 : wr.cell? ⟨w.heap.size + 1, 2, none⟩ = some (.int .i64 o) := HQ.out.1.cell (a := ⟨w.heap.size + 1, 2, none⟩) HBo.out.2.2.2 (fun e => by have := Option.some.inj e; simp at this; omega)
              clear hv hgq hge
              by_cases hql : q < tally A n F
              · obtain ⟨j, hj1, hj2, hj3, hj4⟩ := fl_place hql
                obtain ⟨ob, oo, hoa, hoc⟩ := HOut.out.1
                obtain rfl := hoa (by omega)
                have hobg := HOut.out.2 ob oo rfl
                have hcq := hoc q hql
                have hcq' : w1.cell? ⟨ob, oo + q, none⟩ = some (.int .i64 (j : Nat)) := by rw [hcq]; exact congrArg (fun q => some (Value.int .i64 q)) hj1
                have hc1 : wr.cell? ⟨ob, oo + q, none⟩ = some (.int .i64 (j : Nat)) := HQ.out.1.cell (a := ⟨ob, oo + q, none⟩) hcq' (fun e => hobg (by cases e; rfl))
                have hqi : (q : Int) < (tally A n F : Nat) := by omega
                have HJ : Hid (A j = n ∧ tally A n j = q) := ⟨hj3, hj4⟩
                clear hcq hcq' hoc hoa hj1 hj2 hj3 hj4
                by_cases hjk : j = k
                · have e1 : ((j : Int) == (k : Int)) = true := beq_iff_eq.2 (by omega)
                  have HJk : Hid (j = k) := hjk
                  have hp := two_pos q
                  have hq1 : 0 ≤ o / 2 ^ q := Int.ediv_nonneg ho0 (by omega)
                  have htm : (o / 2 ^ q).tmod 2 = o / 2 ^ q % 2 := Int.tmod_eq_emod_of_nonneg hq1
                  clear hjk hp hq1
                  by_cases hbit : o / 2 ^ q % 2 = 1
                  · have e2 : (o / 2 ^ q % 2 == 1) = true := beq_iff_eq.2 hbit
                    have HG2 : Hid (gq A n o k (q + 1) = 1 ∧ gq A n o k q = 0) := gq_hit (by have := HJ.out.1; rw [HJk.out] at this; exact this) (by have := HJ.out.2; rw [HJk.out] at this; exact this) (by unfold bit; exact decide_eq_true hbit)
                    have HN : Hid (w1.grownBy (wr.setCell ⟨g, k, none⟩ (.int .i64 (v + 1))) (some g) ∧ Mk (wr.setCell ⟨g, k, none⟩ (.int .i64 (v + 1))) g F (upd (fz K A B ((n : Int), x, o) m k) k ((m k - 1) + gq A n o k (q + 1)))) :=
                      ⟨grown_set HQ.out.1 _ _, (HQ.out.2.set k _).congr (fun i _ => by rw [upd_upd, HV.out, HG2.out.1, HG2.out.2, Int.add_zero])⟩
                    clear hbit
                    go_wp2
                    go_roundw
                    case rel => exact ⟨q + 1, by omega, by go_num, HN.out⟩
                    case measure => simp [intOf]; omega
                  · have e2 : (o / 2 ^ q % 2 == 1) = false := beq_eq_false_iff_ne.2 hbit
                    have HG2 : Hid (gq A n o k (q + 1) = gq A n o k q) := gq_bit (by have := HJ.out.2; rw [HJk.out] at this; exact this) (by unfold bit; exact decide_eq_false hbit)
                    clear hbit
                    go_wp2
                    go_roundw
                    case rel => exact ⟨q + 1, by omega, by go_num, by rw [HG2.out]; exact HQ.out⟩
                    case measure => simp [intOf]; omega
                · have e1 : ((j : Int) == (k : Int)) = false := beq_eq_false_iff_ne.2 (by omega)
                  have HG2 : Hid (gq A n o k (q + 1) = gq A n o k q) := gq_other (fun h => hjk (place_uniq HJ.out.1 h.1 (by have := HJ.out.2; omega)))
                  clear hjk
                  go_wp2
                  go_roundw
                  case rel => exact ⟨q + 1, by omega, by go_num, by rw [HG2.out]; exact HQ.out⟩
                  case measure => simp [intOf]; omega
              · obtain rfl : tally A n F = q := by omega
                have HVf : Hid (v = frs K A B ((n : Int), x, o) m k) := by
                  show v = _
                  rw [HV.out]
                  exact gq_full hlt HK3.out HZ.out.symm
                have HN : Hid (Mk wr g F (fz K A B ((n : Int), x, o) m (k + 1))) := HQ.out.2.congr (fun i _ => by rw [← HV.out]; exact fz_next HVf.out i)
                by_cases h99 : 9 < v
                · have HE2 : Hid (ErK K A B m ((n : Int), x, o) (k + 1) 7) := ErK.bad (by rw [← HVf.out]; exact h99)
                  go_wp2
                  go_roundw
                  case rel => exact ⟨k + 1, 7, by omega, by go_num, rfl, HE2.out, hid ⟨HQ.out.1, HN.out⟩⟩
                  case measure => simp [intOf]; omega
                · have HE2 : Hid (ErK K A B m ((n : Int), x, o) (k + 1) y) := HEr.out.more (by rw [← HVf.out]; omega)
                  go_wp2
                  go_roundw
                  case rel => exact ⟨k + 1, y, by omega, by go_num, rfl, HE2.out, hid ⟨HQ.out.1, HN.out⟩⟩
                  case measure => simp [intOf]; omega
          · by_cases hx0 : x < 0
            · by_cases hmk0 : 0 < m k
              · have b1 : (B k == (n : Int)) = true := beq_iff_eq.2 hB
                have b2 : (x == (k : Int)) = false := beq_eq_false_iff_ne.2 hxk
                have HTk : Hid (B k = n ∧ (x = k ∨ x < 0 ∧ 0 < m k)) := ⟨hB, Or.inr ⟨hx0, hmk0⟩⟩
                clear hB hxk
                have HZ : Hid (tkn B ((n : Int), x, o) m k = (m k - 1)) := tkn_at (HTk.out)
                have HL : Hid (∀ nq, w1.grownBy (((wr.setCell ⟨g, k, none⟩ (.int .i64 (m k))).drewN nq).setCell ⟨g, k, none⟩ (.int .i64 (m k - 1))) (some g) ∧ Mk (((wr.setCell ⟨g, k, none⟩ (.int .i64 (m k))).drewN nq).setCell ⟨g, k, none⟩ (.int .i64 (m k - 1))) g F (upd (fz K A B ((n : Int), x, o) m k) k ((m k - 1) + gq A n o k 0))) := fun nq => by
                  have h1 : w1.grownBy (wr.setCell ⟨g, k, none⟩ (.int .i64 (m k))) (some g) := grown_set HT.out.1 _ _
                  have h2 : w1.grownBy ((wr.setCell ⟨g, k, none⟩ (.int .i64 (m k))).drewN nq) (some g) := ⟨h1.os, h1.tape, h1.output, h1.size, h1.block⟩
                  have m1 : Mk ((wr.setCell ⟨g, k, none⟩ (.int .i64 (m k))).drewN nq) g F (upd (fz K A B ((n : Int), x, o) m k) k (m k)) := Mk.of_block (HT.out.2.set k _) rfl
                  exact ⟨grown_set h2 _ _, (m1.set k _).congr (fun i _ => by rw [upd_upd, gq_zero, Int.add_zero])⟩
                go_wp2
                go_quiet (fail)
                go_wp2
                clear d1 d2 d3 d4 d5 d6 d7
                go_loopw [12] (fun i wr => ∃ q : Nat, q ≤ tally A n F ∧ i = .int .i64 q ∧ Hid (w1.grownBy wr (some g) ∧ Mk wr g F (upd (fz K A B ((n : Int), x, o) m k) k ((m k - 1) + gq A n o k q)))) (fun i _ => tally A n F - (intOf i).toNat)
                case atStart => exact ⟨0, Nat.zero_le _, rfl, HL.out _⟩
                case round =>
                  obtain ⟨q, hq, rfl, HQ⟩ := hrel
                  have hge := HGe.out
                  have hgq := gq_or A n o k q
                  obtain ⟨v, hv⟩ : ∃ v, v = (m k - 1) + gq A n o k q := ⟨_, rfl⟩
                  have hvb : -1 ≤ v ∧ v ≤ 10 := by omega
                  have HV : Hid (v = (m k - 1) + gq A n o k q) := hv
                  have hc3 : wr.cell? ⟨g, k, none⟩ = some (.int .i64 v) := by
                    have h1 := HQ.out.2.cell hlt
                    rw [← hv] at h1
                    rw [h1]
                    unfold upd
                    rw [if_pos rfl]
                  have hc4 := HQ.out.2.frozen k
                  have hc2 : wr.cell? ⟨w.heap.size + 1, 2, none⟩ = some (.int .i64 o) := HQ.out.1.cell (a := ⟨w.heap.size + 1, 2, none⟩) HBo.out.2.2.2 (fun e => by have := Option.some.inj e; simp at this; omega)
                  clear hv hgq hge
                  by_cases hql : q < tally A n F
                  · obtain ⟨j, hj1, hj2, hj3, hj4⟩ := fl_place hql
                    obtain ⟨ob, oo, hoa, hoc⟩ := HOut.out.1
                    obtain rfl := hoa (by omega)
                    have hobg := HOut.out.2 ob oo rfl
                    have hcq := hoc q hql
                    have hcq' : w1.cell? ⟨ob, oo + q, none⟩ = some (.int .i64 (j : Nat)) := by rw [hcq]; exact congrArg (fun q => some (Value.int .i64 q)) hj1
                    have hc1 : wr.cell? ⟨ob, oo + q, none⟩ = some (.int .i64 (j : Nat)) := HQ.out.1.cell (a := ⟨ob, oo + q, none⟩) hcq' (fun e => hobg (by cases e; rfl))
                    have hqi : (q : Int) < (tally A n F : Nat) := by omega
                    have HJ : Hid (A j = n ∧ tally A n j = q) := ⟨hj3, hj4⟩
                    clear hcq hcq' hoc hoa hj1 hj2 hj3 hj4
                    by_cases hjk : j = k
                    · have e1 : ((j : Int) == (k : Int)) = true := beq_iff_eq.2 (by omega)
                      have HJk : Hid (j = k) := hjk
                      have hp := two_pos q
                      have hq1 : 0 ≤ o / 2 ^ q := Int.ediv_nonneg ho0 (by omega)
                      have htm : (o / 2 ^ q).tmod 2 = o / 2 ^ q % 2 := Int.tmod_eq_emod_of_nonneg hq1
                      clear hjk hp hq1
                      by_cases hbit : o / 2 ^ q % 2 = 1
                      · have e2 : (o / 2 ^ q % 2 == 1) = true := beq_iff_eq.2 hbit
                        have HG2 : Hid (gq A n o k (q + 1) = 1 ∧ gq A n o k q = 0) := gq_hit (by have := HJ.out.1; rw [HJk.out] at this; exact this) (by have := HJ.out.2; rw [HJk.out] at this; exact this) (by unfold bit; exact decide_eq_true hbit)
                        have HN : Hid (w1.grownBy (wr.setCell ⟨g, k, none⟩ (.int .i64 (v + 1))) (some g) ∧ Mk (wr.setCell ⟨g, k, none⟩ (.int .i64 (v + 1))) g F (upd (fz K A B ((n : Int), x, o) m k) k ((m k - 1) + gq A n o k (q + 1)))) :=
                          ⟨grown_set HQ.out.1 _ _, (HQ.out.2.set k _).congr (fun i _ => by rw [upd_upd, HV.out, HG2.out.1, HG2.out.2, Int.add_zero])⟩
                        clear hbit
                        go_wp2
                        go_roundw
                        case rel => exact ⟨q + 1, by omega, by go_num, HN.out⟩
                        case measure => simp [intOf]; omega
                      · have e2 : (o / 2 ^ q % 2 == 1) = false := beq_eq_false_iff_ne.2 hbit
                        have HG2 : Hid (gq A n o k (q + 1) = gq A n o k q) := gq_bit (by have := HJ.out.2; rw [HJk.out] at this; exact this) (by unfold bit; exact decide_eq_false hbit)
                        clear hbit
                        go_wp2
                        go_roundw
                        case rel => exact ⟨q + 1, by omega, by go_num, by rw [HG2.out]; exact HQ.out⟩
                        case measure => simp [intOf]; omega
                    · have e1 : ((j : Int) == (k : Int)) = false := beq_eq_false_iff_ne.2 (by omega)
                      have HG2 : Hid (gq A n o k (q + 1) = gq A n o k q) := gq_other (fun h => hjk (place_uniq HJ.out.1 h.1 (by have := HJ.out.2; omega)))
                      clear hjk
                      go_wp2
                      go_roundw
                      case rel => exact ⟨q + 1, by omega, by go_num, by rw [HG2.out]; exact HQ.out⟩
                      case measure => simp [intOf]; omega
                  · obtain rfl : tally A n F = q := by omega
                    have HVf : Hid (v = frs K A B ((n : Int), x, o) m k) := by
                      show v = _
                      rw [HV.out]
                      exact gq_full hlt HK3.out HZ.out.symm
                    have HN : Hid (Mk wr g F (fz K A B ((n : Int), x, o) m (k + 1))) := HQ.out.2.congr (fun i _ => by rw [← HV.out]; exact fz_next HVf.out i)
                    by_cases h99 : 9 < v
                    · have HE2 : Hid (ErK K A B m ((n : Int), x, o) (k + 1) 7) := ErK.bad (by rw [← HVf.out]; exact h99)
                      go_wp2
                      go_roundw
                      case rel => exact ⟨k + 1, 7, by omega, by go_num, rfl, HE2.out, hid ⟨HQ.out.1, HN.out⟩⟩
                      case measure => simp [intOf]; omega
                    · have HE2 : Hid (ErK K A B m ((n : Int), x, o) (k + 1) y) := HEr.out.more (by rw [← HVf.out]; omega)
                      go_wp2
                      go_roundw
                      case rel => exact ⟨k + 1, y, by omega, by go_num, rfl, HE2.out, hid ⟨HQ.out.1, HN.out⟩⟩
                      case measure => simp [intOf]; omega
              · have b1 : (B k == (n : Int)) = true := beq_iff_eq.2 hB
                have b2 : (x == (k : Int)) = false := beq_eq_false_iff_ne.2 hxk
                have b3 : decide (0 < m k) = false := decide_eq_false hmk0
                have HTk : Hid (¬ (B k = n ∧ (x = k ∨ x < 0 ∧ 0 < m k))) := fun h => h.2.elim hxk (fun h2 => hmk0 h2.2)
                clear hB hxk hmk0
                have HZ : Hid (tkn B ((n : Int), x, o) m k = m k) := tkn_not HBx0.out (HTk.out)
                have HL : Hid (∀ nq, w1.grownBy ((wr.setCell ⟨g, k, none⟩ (.int .i64 (m k))).drewN nq) (some g) ∧ Mk ((wr.setCell ⟨g, k, none⟩ (.int .i64 (m k))).drewN nq) g F (upd (fz K A B ((n : Int), x, o) m k) k (m k + gq A n o k 0))) := fun nq => by
                  have h1 : w1.grownBy (wr.setCell ⟨g, k, none⟩ (.int .i64 (m k))) (some g) := grown_set HT.out.1 _ _
                  exact ⟨⟨h1.os, h1.tape, h1.output, h1.size, h1.block⟩, (Mk.of_block (HT.out.2.set k _) rfl : Mk ((wr.setCell ⟨g, k, none⟩ (.int .i64 (m k))).drewN nq) g F (upd (fz K A B ((n : Int), x, o) m k) k (m k))).congr (fun i _ => by rw [gq_zero, Int.add_zero])⟩
                go_wp2
                go_quiet (fail)
                go_wp2
                clear d1 d2 d3 d4 d5 d6 d7
                go_loopw [12] (fun i wr => ∃ q : Nat, q ≤ tally A n F ∧ i = .int .i64 q ∧ Hid (w1.grownBy wr (some g) ∧ Mk wr g F (upd (fz K A B ((n : Int), x, o) m k) k (m k + gq A n o k q)))) (fun i _ => tally A n F - (intOf i).toNat)
                case atStart => exact ⟨0, Nat.zero_le _, rfl, HL.out _⟩
                case round =>
                  obtain ⟨q, hq, rfl, HQ⟩ := hrel
                  have hge := HGe.out
                  have hgq := gq_or A n o k q
                  obtain ⟨v, hv⟩ : ∃ v, v = m k + gq A n o k q := ⟨_, rfl⟩
                  have hvb : -1 ≤ v ∧ v ≤ 10 := by omega
                  have HV : Hid (v = m k + gq A n o k q) := hv
                  have hc3 : wr.cell? ⟨g, k, none⟩ = some (.int .i64 v) := by
                    have h1 := HQ.out.2.cell hlt
                    rw [← hv] at h1
                    rw [h1]
                    unfold upd
                    rw [if_pos rfl]
                  have hc4 := HQ.out.2.frozen k
                  have hc2 : wr.cell? ⟨w.heap.size + 1, 2, none⟩ = some (.int .i64 o) := HQ.out.1.cell (a := ⟨w.heap.size + 1, 2, none⟩) HBo.out.2.2.2 (fun e => by have := Option.some.inj e; simp at this; omega)
                  clear hv hgq hge
                  by_cases hql : q < tally A n F
                  · obtain ⟨j, hj1, hj2, hj3, hj4⟩ := fl_place hql
                    obtain ⟨ob, oo, hoa, hoc⟩ := HOut.out.1
                    obtain rfl := hoa (by omega)
                    have hobg := HOut.out.2 ob oo rfl
                    have hcq := hoc q hql
                    have hcq' : w1.cell? ⟨ob, oo + q, none⟩ = some (.int .i64 (j : Nat)) := by rw [hcq]; exact congrArg (fun q => some (Value.int .i64 q)) hj1
                    have hc1 : wr.cell? ⟨ob, oo + q, none⟩ = some (.int .i64 (j : Nat)) := HQ.out.1.cell (a := ⟨ob, oo + q, none⟩) hcq' (fun e => hobg (by cases e; rfl))
                    have hqi : (q : Int) < (tally A n F : Nat) := by omega
                    have HJ : Hid (A j = n ∧ tally A n j = q) := ⟨hj3, hj4⟩
                    clear hcq hcq' hoc hoa hj1 hj2 hj3 hj4
                    by_cases hjk : j = k
                    · have e1 : ((j : Int) == (k : Int)) = true := beq_iff_eq.2 (by omega)
                      have HJk : Hid (j = k) := hjk
                      have hp := two_pos q
                      have hq1 : 0 ≤ o / 2 ^ q := Int.ediv_nonneg ho0 (by omega)
                      have htm : (o / 2 ^ q).tmod 2 = o / 2 ^ q % 2 := Int.tmod_eq_emod_of_nonneg hq1
                      clear hjk hp hq1
                      by_cases hbit : o / 2 ^ q % 2 = 1
                      · have e2 : (o / 2 ^ q % 2 == 1) = true := beq_iff_eq.2 hbit
                        have HG2 : Hid (gq A n o k (q + 1) = 1 ∧ gq A n o k q = 0) := gq_hit (by have := HJ.out.1; rw [HJk.out] at this; exact this) (by have := HJ.out.2; rw [HJk.out] at this; exact this) (by unfold bit; exact decide_eq_true hbit)
                        have HN : Hid (w1.grownBy (wr.setCell ⟨g, k, none⟩ (.int .i64 (v + 1))) (some g) ∧ Mk (wr.setCell ⟨g, k, none⟩ (.int .i64 (v + 1))) g F (upd (fz K A B ((n : Int), x, o) m k) k (m k + gq A n o k (q + 1)))) :=
                          ⟨grown_set HQ.out.1 _ _, (HQ.out.2.set k _).congr (fun i _ => by rw [upd_upd, HV.out, HG2.out.1, HG2.out.2, Int.add_zero])⟩
                        clear hbit
                        go_wp2
                        go_roundw
                        case rel => exact ⟨q + 1, by omega, by go_num, HN.out⟩
                        case measure => simp [intOf]; omega
                      · have e2 : (o / 2 ^ q % 2 == 1) = false := beq_eq_false_iff_ne.2 hbit
                        have HG2 : Hid (gq A n o k (q + 1) = gq A n o k q) := gq_bit (by have := HJ.out.2; rw [HJk.out] at this; exact this) (by unfold bit; exact decide_eq_false hbit)
                        clear hbit
                        go_wp2
                        go_roundw
                        case rel => exact ⟨q + 1, by omega, by go_num, by rw [HG2.out]; exact HQ.out⟩
                        case measure => simp [intOf]; omega
                    · have e1 : ((j : Int) == (k : Int)) = false := beq_eq_false_iff_ne.2 (by omega)
                      have HG2 : Hid (gq A n o k (q + 1) = gq A n o k q) := gq_other (fun h => hjk (place_uniq HJ.out.1 h.1 (by have := HJ.out.2; omega)))
                      clear hjk
                      go_wp2
                      go_roundw
                      case rel => exact ⟨q + 1, by omega, by go_num, by rw [HG2.out]; exact HQ.out⟩
                      case measure => simp [intOf]; omega
                  · obtain rfl : tally A n F = q := by omega
                    have HVf : Hid (v = frs K A B ((n : Int), x, o) m k) := by
                      show v = _
                      rw [HV.out]
                      exact gq_full hlt HK3.out HZ.out.symm
                    have HN : Hid (Mk wr g F (fz K A B ((n : Int), x, o) m (k + 1))) := HQ.out.2.congr (fun i _ => by rw [← HV.out]; exact fz_next HVf.out i)
                    by_cases h99 : 9 < v
                    · have HE2 : Hid (ErK K A B m ((n : Int), x, o) (k + 1) 7) := ErK.bad (by rw [← HVf.out]; exact h99)
                      go_wp2
                      go_roundw
                      case rel => exact ⟨k + 1, 7, by omega, by go_num, rfl, HE2.out, hid ⟨HQ.out.1, HN.out⟩⟩
                      case measure => simp [intOf]; omega
                    · have HE2 : Hid (ErK K A B m ((n : Int), x, o) (k + 1) y) := HEr.out.more (by rw [← HVf.out]; omega)
                      go_wp2
                      go_roundw
                      case rel => exact ⟨k + 1, y, by omega, by go_num, rfl, HE2.out, hid ⟨HQ.out.1, HN.out⟩⟩
                      case measure => simp [intOf]; omega
            · have b1 : (B k == (n : Int)) = true := beq_iff_eq.2 hB
              have b2 : (x == (k : Int)) = false := beq_eq_false_iff_ne.2 hxk
              have b3 : decide (x < 0) = false := decide_eq_false hx0
              have HTk : Hid (¬ (B k = n ∧ (x = k ∨ x < 0 ∧ 0 < m k))) := fun h => h.2.elim hxk (fun h2 => hx0 h2.1)
              clear hB hxk hx0
              have HZ : Hid (tkn B ((n : Int), x, o) m k = m k) := tkn_not HBx0.out (HTk.out)
              have HL : Hid (∀ nq, w1.grownBy ((wr.setCell ⟨g, k, none⟩ (.int .i64 (m k))).drewN nq) (some g) ∧ Mk ((wr.setCell ⟨g, k, none⟩ (.int .i64 (m k))).drewN nq) g F (upd (fz K A B ((n : Int), x, o) m k) k (m k + gq A n o k 0))) := fun nq => by
                have h1 : w1.grownBy (wr.setCell ⟨g, k, none⟩ (.int .i64 (m k))) (some g) := grown_set HT.out.1 _ _
                exact ⟨⟨h1.os, h1.tape, h1.output, h1.size, h1.block⟩, (Mk.of_block (HT.out.2.set k _) rfl : Mk ((wr.setCell ⟨g, k, none⟩ (.int .i64 (m k))).drewN nq) g F (upd (fz K A B ((n : Int), x, o) m k) k (m k))).congr (fun i _ => by rw [gq_zero, Int.add_zero])⟩
              go_wp2
              go_quiet (fail)
              go_wp2
              clear d1 d2 d3 d4 d5 d6 d7
              go_loopw [12] (fun i wr => ∃ q : Nat, q ≤ tally A n F ∧ i = .int .i64 q ∧ Hid (w1.grownBy wr (some g) ∧ Mk wr g F (upd (fz K A B ((n : Int), x, o) m k) k (m k + gq A n o k q)))) (fun i _ => tally A n F - (intOf i).toNat)
              case atStart => exact ⟨0, Nat.zero_le _, rfl, HL.out _⟩
              case round =>
                obtain ⟨q, hq, rfl, HQ⟩ := hrel
                have hge := HGe.out
                have hgq := gq_or A n o k q
                obtain ⟨v, hv⟩ : ∃ v, v = m k + gq A n o k q := ⟨_, rfl⟩
                have hvb : -1 ≤ v ∧ v ≤ 10 := by omega
                have HV : Hid (v = m k + gq A n o k q) := hv
                have hc3 : wr.cell? ⟨g, k, none⟩ = some (.int .i64 v) := by
                  have h1 := HQ.out.2.cell hlt
                  rw [← hv] at h1
                  rw [h1]
                  unfold upd
                  rw [if_pos rfl]
                have hc4 := HQ.out.2.frozen k
                have hc2 : wr.cell? ⟨w.heap.size + 1, 2, none⟩ = some (.int .i64 o) := HQ.out.1.cell (a := ⟨w.heap.size + 1, 2, none⟩) HBo.out.2.2.2 (fun e => by have := Option.some.inj e; simp at this; omega)
                clear hv hgq hge
                by_cases hql : q < tally A n F
                · obtain ⟨j, hj1, hj2, hj3, hj4⟩ := fl_place hql
                  obtain ⟨ob, oo, hoa, hoc⟩ := HOut.out.1
                  obtain rfl := hoa (by omega)
                  have hobg := HOut.out.2 ob oo rfl
                  have hcq := hoc q hql
                  have hcq' : w1.cell? ⟨ob, oo + q, none⟩ = some (.int .i64 (j : Nat)) := by rw [hcq]; exact congrArg (fun q => some (Value.int .i64 q)) hj1
                  have hc1 : wr.cell? ⟨ob, oo + q, none⟩ = some (.int .i64 (j : Nat)) := HQ.out.1.cell (a := ⟨ob, oo + q, none⟩) hcq' (fun e => hobg (by cases e; rfl))
                  have hqi : (q : Int) < (tally A n F : Nat) := by omega
                  have HJ : Hid (A j = n ∧ tally A n j = q) := ⟨hj3, hj4⟩
                  clear hcq hcq' hoc hoa hj1 hj2 hj3 hj4
                  by_cases hjk : j = k
                  · have e1 : ((j : Int) == (k : Int)) = true := beq_iff_eq.2 (by omega)
                    have HJk : Hid (j = k) := hjk
                    have hp := two_pos q
                    have hq1 : 0 ≤ o / 2 ^ q := Int.ediv_nonneg ho0 (by omega)
                    have htm : (o / 2 ^ q).tmod 2 = o / 2 ^ q % 2 := Int.tmod_eq_emod_of_nonneg hq1
                    clear hjk hp hq1
                    by_cases hbit : o / 2 ^ q % 2 = 1
                    · have e2 : (o / 2 ^ q % 2 == 1) = true := beq_iff_eq.2 hbit
                      have HG2 : Hid (gq A n o k (q + 1) = 1 ∧ gq A n o k q = 0) := gq_hit (by have := HJ.out.1; rw [HJk.out] at this; exact this) (by have := HJ.out.2; rw [HJk.out] at this; exact this) (by unfold bit; exact decide_eq_true hbit)
                      have HN : Hid (w1.grownBy (wr.setCell ⟨g, k, none⟩ (.int .i64 (v + 1))) (some g) ∧ Mk (wr.setCell ⟨g, k, none⟩ (.int .i64 (v + 1))) g F (upd (fz K A B ((n : Int), x, o) m k) k (m k + gq A n o k (q + 1)))) :=
                        ⟨grown_set HQ.out.1 _ _, (HQ.out.2.set k _).congr (fun i _ => by rw [upd_upd, HV.out, HG2.out.1, HG2.out.2, Int.add_zero])⟩
                      clear hbit
                      go_wp2
                      go_roundw
                      case rel => exact ⟨q + 1, by omega, by go_num, HN.out⟩
                      case measure => simp [intOf]; omega
                    · have e2 : (o / 2 ^ q % 2 == 1) = false := beq_eq_false_iff_ne.2 hbit
                      have HG2 : Hid (gq A n o k (q + 1) = gq A n o k q) := gq_bit (by have := HJ.out.2; rw [HJk.out] at this; exact this) (by unfold bit; exact decide_eq_false hbit)
                      clear hbit
                      go_wp2
                      go_roundw
                      case rel => exact ⟨q + 1, by omega, by go_num, by rw [HG2.out]; exact HQ.out⟩
                      case measure => simp [intOf]; omega
                  · have e1 : ((j : Int) == (k : Int)) = false := beq_eq_false_iff_ne.2 (by omega)
                    have HG2 : Hid (gq A n o k (q + 1) = gq A n o k q) := gq_other (fun h => hjk (place_uniq HJ.out.1 h.1 (by have := HJ.out.2; omega)))
                    clear hjk
                    go_wp2
                    go_roundw
                    case rel => exact ⟨q + 1, by omega, by go_num, by rw [HG2.out]; exact HQ.out⟩
                    case measure => simp [intOf]; omega
                · obtain rfl : tally A n F = q := by omega
                  have HVf : Hid (v = frs K A B ((n : Int), x, o) m k) := by
                    show v = _
                    rw [HV.out]
                    exact gq_full hlt HK3.out HZ.out.symm
                  have HN : Hid (Mk wr g F (fz K A B ((n : Int), x, o) m (k + 1))) := HQ.out.2.congr (fun i _ => by rw [← HV.out]; exact fz_next HVf.out i)
                  by_cases h99 : 9 < v
                  · have HE2 : Hid (ErK K A B m ((n : Int), x, o) (k + 1) 7) := ErK.bad (by rw [← HVf.out]; exact h99)
                    go_wp2
                    go_roundw
                    case rel => exact ⟨k + 1, 7, by omega, by go_num, rfl, HE2.out, hid ⟨HQ.out.1, HN.out⟩⟩
                    case measure => simp [intOf]; omega
                  · have HE2 : Hid (ErK K A B m ((n : Int), x, o) (k + 1) y) := HEr.out.more (by rw [← HVf.out]; omega)
                    go_wp2
                    go_roundw
                    case rel => exact ⟨k + 1, y, by omega, by go_num, rfl, HE2.out, hid ⟨HQ.out.1, HN.out⟩⟩
                    case measure => simp [intOf]; omega
        · have b1 : (B k == (n : Int)) = false := beq_eq_false_iff_ne.2 hB
          have HTk : Hid (¬ (B k = n ∧ (x = k ∨ x < 0 ∧ 0 < m k))) := fun h => hB h.1
          clear hB
          have HZ : Hid (tkn B ((n : Int), x, o) m k = m k) := tkn_not HBx0.out (HTk.out)
          have HL : Hid (∀ nq, w1.grownBy ((wr.setCell ⟨g, k, none⟩ (.int .i64 (m k))).drewN nq) (some g) ∧ Mk ((wr.setCell ⟨g, k, none⟩ (.int .i64 (m k))).drewN nq) g F (upd (fz K A B ((n : Int), x, o) m k) k (m k + gq A n o k 0))) := fun nq => by
            have h1 : w1.grownBy (wr.setCell ⟨g, k, none⟩ (.int .i64 (m k))) (some g) := grown_set HT.out.1 _ _
            exact ⟨⟨h1.os, h1.tape, h1.output, h1.size, h1.block⟩, (Mk.of_block (HT.out.2.set k _) rfl : Mk ((wr.setCell ⟨g, k, none⟩ (.int .i64 (m k))).drewN nq) g F (upd (fz K A B ((n : Int), x, o) m k) k (m k))).congr (fun i _ => by rw [gq_zero, Int.add_zero])⟩
          go_wp2
          go_quiet (fail)
          go_wp2
          clear d1 d2 d3 d4 d5 d6 d7
          go_loopw [12] (fun i wr => ∃ q : Nat, q ≤ tally A n F ∧ i = .int .i64 q ∧ Hid (w1.grownBy wr (some g) ∧ Mk wr g F (upd (fz K A B ((n : Int), x, o) m k) k (m k + gq A n o k q)))) (fun i _ => tally A n F - (intOf i).toNat)
          case atStart => exact ⟨0, Nat.zero_le _, rfl, HL.out _⟩
          case round =>
            obtain ⟨q, hq, rfl, HQ⟩ := hrel
            have hge := HGe.out
            have hgq := gq_or A n o k q
            obtain ⟨v, hv⟩ : ∃ v, v = m k + gq A n o k q := ⟨_, rfl⟩
            have hvb : -1 ≤ v ∧ v ≤ 10 := by omega
            have HV : Hid (v = m k + gq A n o k q) := hv
            have hc3 : wr.cell? ⟨g, k, none⟩ = some (.int .i64 v) := by
              have h1 := HQ.out.2.cell hlt
              rw [← hv] at h1
              rw [h1]
              unfold upd
              rw [if_pos rfl]
            have hc4 := HQ.out.2.frozen k
            have hc2 : wr.cell? ⟨w.heap.size + 1, 2, none⟩ = some (.int .i64 o) := HQ.out.1.cell (a := ⟨w.heap.size + 1, 2, none⟩) HBo.out.2.2.2 (fun e => by have := Option.some.inj e; simp at this; omega)
            clear hv hgq hge
            by_cases hql : q < tally A n F
            · obtain ⟨j, hj1, hj2, hj3, hj4⟩ := fl_place hql
              obtain ⟨ob, oo, hoa, hoc⟩ := HOut.out.1
              obtain rfl := hoa (by omega)
              have hobg := HOut.out.2 ob oo rfl
              have hcq := hoc q hql
              have hcq' : w1.cell? ⟨ob, oo + q, none⟩ = some (.int .i64 (j : Nat)) := by rw [hcq]; exact congrArg (fun q => some (Value.int .i64 q)) hj1
              have hc1 : wr.cell? ⟨ob, oo + q, none⟩ = some (.int .i64 (j : Nat)) := HQ.out.1.cell (a := ⟨ob, oo + q, none⟩) hcq' (fun e => hobg (by cases e; rfl))
              have hqi : (q : Int) < (tally A n F : Nat) := by omega
              have HJ : Hid (A j = n ∧ tally A n j = q) := ⟨hj3, hj4⟩
              clear hcq hcq' hoc hoa hj1 hj2 hj3 hj4
              by_cases hjk : j = k
              · have e1 : ((j : Int) == (k : Int)) = true := beq_iff_eq.2 (by omega)
                have HJk : Hid (j = k) := hjk
                have hp := two_pos q
                have hq1 : 0 ≤ o / 2 ^ q := Int.ediv_nonneg ho0 (by omega)
                have htm : (o / 2 ^ q).tmod 2 = o / 2 ^ q % 2 := Int.tmod_eq_emod_of_nonneg hq1
                clear hjk hp hq1
                by_cases hbit : o / 2 ^ q % 2 = 1
                · have e2 : (o / 2 ^ q % 2 == 1) = true := beq_iff_eq.2 hbit
                  have HG2 : Hid (gq A n o k (q + 1) = 1 ∧ gq A n o k q = 0) := gq_hit (by have := HJ.out.1; rw [HJk.out] at this; exact this) (by have := HJ.out.2; rw [HJk.out] at this; exact this) (by unfold bit; exact decide_eq_true hbit)
                  have HN : Hid (w1.grownBy (wr.setCell ⟨g, k, none⟩ (.int .i64 (v + 1))) (some g) ∧ Mk (wr.setCell ⟨g, k, none⟩ (.int .i64 (v + 1))) g F (upd (fz K A B ((n : Int), x, o) m k) k (m k + gq A n o k (q + 1)))) :=
                    ⟨grown_set HQ.out.1 _ _, (HQ.out.2.set k _).congr (fun i _ => by rw [upd_upd, HV.out, HG2.out.1, HG2.out.2, Int.add_zero])⟩
                  clear hbit
                  go_wp2
                  go_roundw
                  case rel => exact ⟨q + 1, by omega, by go_num, HN.out⟩
                  case measure => simp [intOf]; omega
                · have e2 : (o / 2 ^ q % 2 == 1) = false := beq_eq_false_iff_ne.2 hbit
                  have HG2 : Hid (gq A n o k (q + 1) = gq A n o k q) := gq_bit (by have := HJ.out.2; rw [HJk.out] at this; exact this) (by unfold bit; exact decide_eq_false hbit)
                  clear hbit
                  go_wp2
                  go_roundw
                  case rel => exact ⟨q + 1, by omega, by go_num, by rw [HG2.out]; exact HQ.out⟩
                  case measure => simp [intOf]; omega
              · have e1 : ((j : Int) == (k : Int)) = false := beq_eq_false_iff_ne.2 (by omega)
                have HG2 : Hid (gq A n o k (q + 1) = gq A n o k q) := gq_other (fun h => hjk (place_uniq HJ.out.1 h.1 (by have := HJ.out.2; omega)))
                clear hjk
                go_wp2
                go_roundw
                case rel => exact ⟨q + 1, by omega, by go_num, by rw [HG2.out]; exact HQ.out⟩
                case measure => simp [intOf]; omega
            · obtain rfl : tally A n F = q := by omega
              have HVf : Hid (v = frs K A B ((n : Int), x, o) m k) := by
                show v = _
                rw [HV.out]
                exact gq_full hlt HK3.out HZ.out.symm
              have HN : Hid (Mk wr g F (fz K A B ((n : Int), x, o) m (k + 1))) := HQ.out.2.congr (fun i _ => by rw [← HV.out]; exact fz_next HVf.out i)
              by_cases h99 : 9 < v
              · have HE2 : Hid (ErK K A B m ((n : Int), x, o) (k + 1) 7) := ErK.bad (by rw [← HVf.out]; exact h99)
                go_wp2
                go_roundw
                case rel => exact ⟨k + 1, 7, by omega, by go_num, rfl, HE2.out, hid ⟨HQ.out.1, HN.out⟩⟩
                case measure => simp [intOf]; omega
              · have HE2 : Hid (ErK K A B m ((n : Int), x, o) (k + 1) y) := HEr.out.more (by rw [← HVf.out]; omega)
                go_wp2
                go_roundw
                case rel => exact ⟨k + 1, y, by omega, by go_num, rfl, HE2.out, hid ⟨HQ.out.1, HN.out⟩⟩
                case measure => simp [intOf]; omega
      · obtain rfl : F = k := by omega
        rcases HEr.out with ⟨rfl, hall⟩ | ⟨rfl, hex⟩
        · have HAll : Hid (∀ j, j < F → frs K A B ((n : Int), x, o) m j ≤ 9) := hall
          clear hall
          go_wp2
          go_ret2
          exact ⟨HBr.out, Or.inr ⟨HAll.out, g, F, rfl, HT.out.2.congr (fun i hi => by unfold fz; rw [if_pos hi])⟩⟩
        · have HEx : Hid (∃ j, j < F ∧ 9 < frs K A B ((n : Int), x, o) m j) := hex
          clear hex
          go_wp2
          go_ret2
          exact ⟨HBr.out, Or.inl ⟨HEx.out, rfl⟩⟩

end Go.Proofs.Ythpbgfodejoecaa
