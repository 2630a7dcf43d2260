/- isEnabled. Small functions, by their contracts. Small functions, by their contracts. -/
import Derived.Test.YthpbgfodejoecaaGameMay
import Derived.Test.YthpbgfodejoecaaReachJ
import Derived.Test.YthpbgfodejoecaaSteps
namespace Go.Proofs.Ythpbgfodejoecaa
open Go.RowKit

/-- Is the step enabled? -/
def enb (K A B : Nat → Int) (F : Nat) (m : Nat → Int) (t : St3) : Prop :=
  (0 ≤ t.2.1 ∧ 0 < m t.2.1.toNat) ∨ (t.2.1 < 0 ∧ K t.1.toNat = 6 ∧ ∀ j, j < F → B j = t.1 → 0 < m j) ∨
    (t.2.1 < 0 ∧ K t.1.toNat ≠ 6 ∧ (∃ j, j < F ∧ B j = t.1 ∧ 0 < m j) ∧ ¬ ∃ j, j < F ∧ B j = t.1 ∧ m j = 0 ∧ Cm A B F m t.1 j)

theorem enb_one {K A B : Nat → Int} {F : Nat} {m : Nat → Int} {n : Nat} {y : Nat} {o : Int} : enb K A B F m ((n : Int), (y : Int), o) ↔ 0 < m y := by
  unfold enb
  constructor
  · rintro (h | h | h)
    · simpa using h.2
    · exact absurd h.1 (by show ¬ (y : Int) < 0; omega)
    · exact absurd h.1 (by show ¬ (y : Int) < 0; omega)
  · intro h
    exact Or.inl ⟨by show (0 : Int) ≤ (y : Int); omega, by simpa using h⟩

theorem enb_and {K A B : Nat → Int} {F : Nat} {m : Nat → Int} {n : Nat} {x o : Int} (hx : x < 0) (hK : K n = 6) : enb K A B F m ((n : Int), x, o) ↔ ∀ j, j < F → B j = n → 0 < m j := by
  unfold enb
  constructor
  · rintro (h | h | h)
    · exact absurd h.1 (by show ¬ 0 ≤ x; omega)
    · exact h.2.2
    · exact absurd hK (by simpa using h.2.1)
  · intro h
    exact Or.inr (Or.inl ⟨hx, by simpa using hK, h⟩)

theorem enb_or {K A B : Nat → Int} {F : Nat} {m : Nat → Int} {n : Nat} {x o : Int} (hx : x < 0) (hK : K n ≠ 6) : enb K A B F m ((n : Int), x, o) ↔ (∃ j, j < F ∧ B j = n ∧ 0 < m j) ∧ ¬ ∃ j, j < F ∧ B j = n ∧ m j = 0 ∧ Cm A B F m n j := by
  unfold enb
  constructor
  · rintro (h | h | h)
    · exact absurd h.1 (by show ¬ 0 ≤ x; omega)
    · exact absurd (by simpa using h.2.1) hK
    · exact h.2.2
  · intro h
    exact Or.inr (Or.inr ⟨hx, by simpa using hK, h⟩)

/-- c of the first k flows into n have a token. -/
structure Cnt (B m : Nat → Int) (F : Nat) (n : Int) (k c : Nat) : Prop where
  le : c ≤ k
  some : 0 < c ↔ ∃ j, j < F ∧ B j = n ∧ tally B n j < k ∧ 0 < m j
  all : c = k ↔ ∀ j, j < F → B j = n → tally B n j < k → 0 < m j

theorem cnt_zero (B m : Nat → Int) (F : Nat) (n : Int) : Cnt B m F n 0 0 :=
  ⟨Nat.le_refl _, iff_of_false (by omega) (by rintro ⟨j, _, _, h, _⟩; omega), iff_of_true rfl (fun j _ _ h => by omega)⟩

theorem Cnt.hit {B m : Nat → Int} {F : Nat} {n : Int} {k c j : Nat} (h : Cnt B m F n k c) (h1 : j < F) (h2 : B j = n) (h3 : tally B n j = k) (h4 : 0 < m j) : Cnt B m F n (k + 1) (c + 1) := by
  refine ⟨by have := h.le; omega, iff_of_true (by omega) ⟨j, h1, h2, by omega, h4⟩, ?_⟩
  constructor
  · intro hc i hi1 hi2 hi3
    by_cases e : tally B n i < k
    · exact h.all.1 (by omega) i hi1 hi2 e
    · obtain rfl : i = j := place_uniq hi2 h2 (by omega)
      exact h4
  · intro hc
    have := h.all.2 (fun i hi1 hi2 hi3 => hc i hi1 hi2 (by omega))
    omega

theorem Cnt.miss {B m : Nat → Int} {F : Nat} {n : Int} {k c j : Nat} (h : Cnt B m F n k c) (h1 : j < F) (h2 : B j = n) (h3 : tally B n j = k) (h4 : ¬ 0 < m j) : Cnt B m F n (k + 1) c := by
  have hle := h.le
  refine ⟨by omega, ?_, iff_of_false (by omega) (fun hh => h4 (hh j h1 h2 (by omega)))⟩
  rw [h.some]
  constructor
  · rintro ⟨i, hi1, hi2, hi3, hi4⟩
    exact ⟨i, hi1, hi2, by omega, hi4⟩
  · rintro ⟨i, hi1, hi2, hi3, hi4⟩
    refine ⟨i, hi1, hi2, ?_, hi4⟩
    have : tally B n i ≠ k := fun e => by
      obtain rfl : i = j := place_uniq hi2 h2 (by omega)
      exact h4 hi4
    omega

theorem Cnt.full {B m : Nat → Int} {F : Nat} {n : Int} {c : Nat} (h : Cnt B m F n (tally B n F) c) : (0 < c ↔ ∃ j, j < F ∧ B j = n ∧ 0 < m j) ∧ (c = tally B n F ↔ ∀ j, j < F → B j = n → 0 < m j) := by
  constructor
  · rw [h.some]
    exact ⟨fun ⟨j, h1, h2, _, h4⟩ => ⟨j, h1, h2, h4⟩, fun ⟨j, h1, h2, h4⟩ => ⟨j, h1, h2, place_lt h1 h2, h4⟩⟩
  · rw [h.all]
    exact ⟨fun hh j h1 h2 => hh j h1 h2 (place_lt h1 h2), fun hh j h1 h2 _ => hh j h1 h2⟩

theorem told {P : Prop} {e : Ending} {x : Bool} (h1 : e = .returned (.bool x)) (h2 : x = true ↔ P) : Told P e := ⟨x, h1, h2⟩

set_option maxHeartbeats 2000000 in
theorem isEnabled_any {na fa sa ia oa : Option Addr} {N nc F fc sc ic oc Sn : Nat} {M : Nat → ByteArray} {K A B : Nat → Int} {l : List St3} {w : World} (h : Brd w na N nc fa F sa ia oa M K A B l) {ma : Option Addr} {mc : Nat} {m : Nat → Int} (hm : Row w ma F m) {n : Nat} (hn : n < N) {x o : Int} (hx : x < F) :
    Calls Try.prog 75 #[.agg #[.slice na N nc, .slice fa F fc, .slice sa Sn sc, .slice ia N ic, .slice oa N oc], .slice ma F mc, .agg #[.int .i64 n, .int .i64 x, .int .i64 o]] w fun e w' => Told (enb K A B F m ((n : Int), x, o)) e ∧ Below w.heap.size w w' := by
  have HH : Hid (Brd w na N nc fa F sa ia oa M K A B l) := h
  have HMr : Hid (Row w ma F m) := hm
  have hF30 : F ≤ 30 := (chk_zero h.chk).1.2
  obtain ⟨mb, mo, hma, hmc⟩ := hm
  by_cases h0 : 0 ≤ x
  · obtain ⟨y, rfl⟩ : ∃ y : Nat, x = y := ⟨x.toNat, by omega⟩
    have hy : y < F := by omega
    obtain rfl := hma (by omega)
    have hc := hmc y hy
    have hbl : mb < w.heap.size := World.block_lt_of_cell? _ _ hc
    have HR : Hid (enb K A B F m ((n : Int), (y : Int), o) ↔ 0 < m y) := enb_one
    clear hmc h hma
    go_enter Try.func75, Try.ntmps75
    go_wp2
    go_ret
    exact ⟨told rfl (by rw [HR.out]; simp), (box_below _ _).trans ((box_below _ _).mono (by simp))⟩
  · have hx0 : x < 0 := by omega
    obtain ⟨gb, go, rfl, hgb, ra, rc, hr1, hr2, _⟩ := h.ins.at (Below.refl _ _) hn
    have HRw : Hid (Row w ra (tally B n F) (fun i => (fl B n F).getD i 0)) := hr2
    have htl := tally_le B n F
    obtain ⟨nb, no, hna, hnc⟩ := h.prc.nds
    obtain rfl := hna (by omega)
    have hk := (hnc n hn).2
    have hnbl : nb < w.heap.size := World.block_lt_of_cell? _ _ hk
    have HM : Hid (∀ i, i < F → w.cell? ⟨mb, mo + i, none⟩ = some (.int .i64 (m i))) := hmc
    have HE1 : Hid (K n = 6 → (enb K A B F m ((n : Int), x, o) ↔ ∀ j, j < F → B j = n → 0 < m j)) := fun hK => enb_and hx0 hK
    have HE2 : Hid (K n ≠ 6 → (enb K A B F m ((n : Int), x, o) ↔ (∃ j, j < F ∧ B j = n ∧ 0 < m j) ∧ ¬ ∃ j, j < F ∧ B j = n ∧ m j = 0 ∧ Cm A B F m n j)) := fun hK => enb_or hx0 hK
    clear hmc h hr2 hnc hna
    go_enter Try.func75, Try.ntmps75
    go_wp2
    go_loop [7, 26] (fun s i => ∃ k c : Nat, k ≤ tally B n F ∧ i = .int .i64 k ∧ s = .int .i64 c ∧ Hid (Cnt B m F n k c)) (fun _ i => tally B n F - (intOf i).toNat)
    case atStart => exact ⟨0, 0, Nat.zero_le _, rfl, rfl, cnt_zero _ _ _ _⟩
    case round =>
      obtain ⟨k, c, hk2, rfl, rfl, HC⟩ := hrel
      have hcl := HC.out.le
      by_cases hlt : k < tally B n F
      · obtain ⟨j, hj1, hj2, hj3, hj4⟩ := fl_place hlt
        obtain ⟨b, o', ha, hc⟩ := HRw.out
        obtain rfl := ha (by omega)
        have hck := hc k hlt
        have hck' : w.cell? ⟨b, o' + k, none⟩ = some (.int .i64 (j : Nat)) := by rw [hck]; exact congrArg (fun q => some (Value.int .i64 q)) hj1
        have hbl : b < w.heap.size := World.block_lt_of_cell? _ _ hck'
        obtain rfl := hma (by omega)
        have hmj := HM.out j hj2
        have hmbl : mb < w.heap.size := World.block_lt_of_cell? _ _ hmj
        have hjF : (j : Int) < F := by omega
        have HJ : Hid (j < F ∧ B j = n ∧ tally B n j = k) := ⟨hj2, hj3, hj4⟩
        clear hck hc ha hj1 hj3 hj4
        by_cases hz : 0 < m j
        · have HC2 : Hid (Cnt B m F n (k + 1) (c + 1)) := HC.out.hit HJ.out.1 HJ.out.2.1 HJ.out.2.2 hz
          go_wp2
          go_round
          case rel => exact ⟨k + 1, c + 1, by omega, by go_num, by go_num, HC2.out⟩
          case measure => simp [intOf]; omega
        · have HC2 : Hid (Cnt B m F n (k + 1) c) := HC.out.miss HJ.out.1 HJ.out.2.1 HJ.out.2.2 hz
          go_wp2
          go_round
          case rel => exact ⟨k + 1, c, by omega, by go_num, rfl, HC2.out⟩
          case measure => simp [intOf]; omega
      · obtain rfl : tally B n F = k := by omega
        have HC3 : Hid ((0 < c ↔ ∃ j, j < F ∧ B j = n ∧ 0 < m j) ∧ (c = tally B n F ↔ ∀ j, j < F → B j = n → 0 < m j)) := HC.out.full
        by_cases hK : K n = 6
        · have hK' : (K n == 6) = true := beq_iff_eq.2 hK
          have HE3 : Hid (enb K A B F m ((n : Int), x, o) ↔ ∀ j, j < F → B j = n → 0 < m j) := HE1.out hK
          clear hK
          by_cases hcc : c = tally B n F
          · have hc' : ((c : Int) == (tally B n F : Nat)) = true := beq_iff_eq.2 (by omega)
            have HCC : Hid (c = tally B n F) := hcc
            clear hcc
            go_wp2
            go_ret
            exact ⟨told rfl (iff_of_true rfl (HE3.out.2 (HC3.out.2.1 HCC.out))), (box_below _ _).trans ((box_below _ _).mono (by simp))⟩
          · have hc' : ((c : Int) == (tally B n F : Nat)) = false := beq_eq_false_iff_ne.2 (by omega)
            have HCC : Hid (c ≠ tally B n F) := hcc
            clear hcc
            go_wp2
            go_ret
            exact ⟨told rfl (iff_of_false (by decide) (fun hh => HCC.out (HC3.out.2.2 (HE3.out.1 hh)))), (box_below _ _).trans ((box_below _ _).mono (by simp))⟩
        · have hK' : (K n == 6) = false := beq_eq_false_iff_ne.2 hK
          have HE3 := HE2.out hK
          have HE4 : Hid (enb K A B F m ((n : Int), x, o) ↔ (∃ j, j < F ∧ B j = n ∧ 0 < m j) ∧ ¬ ∃ j, j < F ∧ B j = n ∧ m j = 0 ∧ Cm A B F m n j) := HE3
          clear hK HE3
          by_cases hcc : 0 < c
          · have HCC : Hid (0 < c) := hcc
            have hci : (0 : Int) < (c : Int) := by omega
            obtain ⟨W, eW⟩ : ∃ u, u = (w.alloc (.cells #[.slice (some ⟨nb, no, none⟩) N nc, .slice fa F fc, .slice sa Sn sc, .slice (some ⟨gb, go, none⟩) N ic, .slice oa N oc] 94)).alloc (.cells #[.int .i64 n, .int .i64 x, .int .i64 o] 66) := ⟨_, rfl⟩
            have HW : Hid (Below w.heap.size w W) := by subst eW; exact (box_below _ _).trans ((box_below _ _).mono (by simp))
            have C : Hid (Calls Try.prog 100 #[.agg #[.slice (some ⟨nb, no, none⟩) N nc, .slice fa F fc, .slice sa Sn sc, .slice (some ⟨gb, go, none⟩) N ic, .slice oa N oc], .slice ma F mc, .int .i64 n] W fun e w' => Told (∃ j, j < F ∧ B j = n ∧ m j = 0 ∧ Cm A B F m n j) e ∧ Below W.heap.size W w') := mayCome_any (HH.out.below HW.out) (HMr.out.below HW.out) hn
            rw [eW] at C
            have HEW : Hid (W = (w.alloc (.cells #[.slice (some ⟨nb, no, none⟩) N nc, .slice fa F fc, .slice sa Sn sc, .slice (some ⟨gb, go, none⟩) N ic, .slice oa N oc] 94)).alloc (.cells #[.int .i64 n, .int .i64 x, .int .i64 o] 66)) := eW
            clear eW
            go_wp2_with fail
            refine C.out.mono ?_
            rw [← HEW.out]
            rintro e w' ⟨⟨z, rfl, hz⟩, hb⟩
            have HB : Hid (Below w.heap.size w w') := HW.out.trans (hb.mono HW.out.size)
            have HZ : Hid (z = true ↔ ∃ j, j < F ∧ B j = n ∧ m j = 0 ∧ Cm A B F m n j) := hz
            clear hz hb C
            cases hzz : z
            · have HZ2 : Hid (¬ ∃ j, j < F ∧ B j = n ∧ m j = 0 ∧ Cm A B F m n j) := fun hh => by have := HZ.out.2 hh; rw [hzz] at this; cases this
              clear hzz HZ
              go_wp2
              go_ret
              exact ⟨told rfl (iff_of_true rfl (HE4.out.2 ⟨HC3.out.1.1 HCC.out, HZ2.out⟩)), HB.out⟩
            · have HZ2 : Hid (∃ j, j < F ∧ B j = n ∧ m j = 0 ∧ Cm A B F m n j) := HZ.out.1 hzz
              clear hzz HZ
              go_wp2
              go_ret
              exact ⟨told rfl (iff_of_false (by decide) (fun hh => (HE4.out.1 hh).2 HZ2.out)), HB.out⟩
          · have HCC : Hid (¬ 0 < c) := hcc
            obtain rfl : c = 0 := by omega
            go_wp2
            go_ret
            exact ⟨told rfl (iff_of_false (by decide) (fun hh => HCC.out (HC3.out.1.2 (HE4.out.1 hh).1))), (box_below _ _).trans ((box_below _ _).mono (by simp))⟩

end Go.Proofs.Ythpbgfodejoecaa

namespace Go.Proofs.Ythpbgfodejoecaa
open Go.RowKit

set_option maxHeartbeats 400000 in
theorem clone_any (a : Option Addr) (n c : Nat) (Z : Nat → Int) (w : World) (hn : n * 8 ≤ 140737488355328) (h : Row w a n Z) (hnil : a = none → n = 0 ∧ c = 0) :
    Calls Try.prog 51 #[.slice a n c] w fun e w' => ∃ v, e = .returned v ∧ w'.ownsRow w.heap.size 3 1 v n (vals (lst n Z)) ∧ Below w.heap.size w w' := by
  cases a with
  | none =>
    obtain ⟨rfl, rfl⟩ := hnil rfl
    have hq := fun w' => Go.Lib.run_eql_slice_nil (P := Try.prog) w' 26 3 none 0 0 0 0 Try.underlying26
    go_enter Try.func51, Try.ntmps51
    go_wp2
    go_ret
    exact ⟨_, rfl, World.ownsRow_nil _ _ _ _, Below.refl _ _⟩
  | some x =>
    obtain ⟨i0, hi, hz0, hz1, hz2⟩ := info_parts Try.info3
    have HI : Hid (Try.prog.info? 3 = some i0 ∧ i0.zero = some (.int .i64 0) ∧ i0.size = 1 ∧ i0.bytes = 8) := ⟨hi, hz0, hz1, hz2⟩
    have HR : Hid (Row w (some x) n Z) := h
    clear hi hz0 hz1 hz2 h hnil
    have HO : Hid ((w.alloc (.cells #[] 3)).ownsRow w.heap.size 3 1 (.slice (some ⟨w.heap.size, 0, none⟩) 0 0) 0 []) := World.ownsRow_made w #[] 0 (Nat.le_refl _) (Nat.zero_le _) rfl
    have HN : Hid (∀ j u, (vals (lst n Z))[j]? = some u → (w.alloc (.cells #[] 3)).cell? (x.add j) = some u) := news_of_row (HR.out.below ((Below.refl _ _).alloc (Nat.le_refl _) _))
    have hq := fun w' => Go.Lib.run_eql_slice_nil (P := Try.prog) w' 26 3 (some x) n c 0 0 Try.underlying26
    go_enter Try.func51, Try.ntmps51
    go_wp2_with (at_builtin; refine wpList_append_own _ rfl _ _ 26 rfl w.heap.size 3 i0 (.int .i64 0) 1 8 Try.underlying26 HI.out.1 HI.out.2.1 HI.out.2.2.1 HI.out.2.2.2 rfl (by decide) _ _ _ rfl HO.out x n c (vals (lst n Z)) rfl (by rw [vals_len, lst_len, Nat.mul_one]) HN.out (vals_one _) (by unfold maxLen; omega) (by omega) (by simp) ?_; intro v' w1 hown' hgrow _; have HX := clone_post hown' hgrow; clear hown' hgrow)
    go_ret
    refine ⟨_, rfl, ?_, HX.out.2⟩
    exact HX.out.1

end Go.Proofs.Ythpbgfodejoecaa

namespace Go.Proofs.Ythpbgfodejoecaa
open Go.RowKit

theorem getD3_lt {l : List St3} {i : Nat} (h : i < l.length) : l.getD i (0, 0, 0) = l[i] := by simp [h]

theorem getD3_mem {l : List St3} {i : Nat} (h : i < l.length) : l.getD i (0, 0, 0) ∈ l := by rw [getD3_lt h]; exact List.getElem_mem h

theorem step_facts {K A B : Nat → Int} {F N : Nat} {t : St3} (h : t ∈ stAll K A B F N) : ∃ n : Nat, n < N ∧ t.1 = n ∧ (t.2.1 = -1 ∨ ∃ q : Nat, t.2.1 = q ∧ q < F ∧ B q = n) ∧ 0 ≤ t.2.2 ∧ t.2.2 < 2 ^ tally A n F := by
  obtain ⟨n, hn, h⟩ := mem_stAll.1 h
  refine ⟨n, hn, stK_node h, ?_, (stK_out h).1, (stK_out h).2⟩
  rcases stK_in h with h1 | h1
  · exact Or.inl h1
  · obtain ⟨q, h2, h3, h4⟩ := mem_fl h1
    exact Or.inr ⟨q, h2, h3, h4⟩

end Go.Proofs.Ythpbgfodejoecaa
