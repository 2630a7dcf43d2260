/- The document's May. The document's Begin, Mark, Fire. -/
import Derived.Deep.RegionHeld3
import Derived.Test.YthpbgfodejoecaaRefGets
import Derived.Test.YthpbgfodejoecaaRefJ
import Derived.Test.YthpbgfodejoecaaGameFire
namespace Go.Proofs.Ythpbgfodejoecaa
open Go.RowKit

theorem or_none {A B : Nat → Int} {F : Nat} {m : Nat → Int} {n : Int} : (¬ ∃ j, j < F ∧ B j = n ∧ m j = 0 ∧ Cm A B F m n j) ↔ ∀ j, j < F → B j = n → ∀ a, a < F → ¬ (m j = 0 ∧ 0 < m a ∧ a ≠ j ∧ Rch A B F n a j) := by
  constructor
  · intro h j hj hB a ha hh
    exact h ⟨j, hj, hB, hh.1, rch_cm.2 ⟨a, ha, hh.2.1, hh.2.2.2⟩⟩
  · rintro h ⟨j, hj, hB, h0, hc⟩
    obtain ⟨a, ha, hp, hr⟩ := rch_cm.1 hc
    refine h j hj hB a ha ⟨h0, hp, fun e => ?_, hr⟩
    subst e
    omega

set_option maxHeartbeats 4000000 in
theorem may_any {na fa : Option Addr} {N nc F fc : Nat} {M : Nat → ByteArray} {K A B : Nat → Int} {w : World} (hp : Prc w na N nc fa F M K A B) (hF30 : F ≤ 30) {ma : Option Addr} {mc : Nat} {m : Nat → Int} (hm : Row w ma F m) {n : Nat} (hn : n < N) {x o : Int} (hx : x < F) :
    Calls Try.prog 56 #[.agg #[.slice na N nc, .slice fa F fc], .slice ma F mc, .agg #[.int .i64 n, .int .i64 x, .int .i64 o]] w fun e w' => Told (enb K A B F m ((n : Int), x, o)) e ∧ Below w.heap.size w w' := by
  have HP : Hid (Prc w na N nc fa F M K A B) := hp
  have HMr : Hid (Row w ma F m) := hm
  obtain ⟨mb, mo, hma, hmc⟩ := hm
  have HM : Hid (∀ i, i < F → w.cell? ⟨mb, mo + i, none⟩ = some (.int .i64 (m i))) := hmc
  by_cases h0 : 0 ≤ x
  · obtain ⟨y, rfl⟩ : ∃ y : Nat, x = y := ⟨x.toNat, by omega⟩
    have hy : y < F := by omega
    obtain rfl := hma (by omega)
    have hc := hmc y hy
    have hbl : mb < w.heap.size := World.block_lt_of_cell? _ _ hc
    have HR : Hid (enb K A B F m ((n : Int), (y : Int), o) ↔ 0 < m y) := enb_one
    clear hmc hp hma
    go_enter Try.func56, Try.ntmps56
    go_wp2
    go_ret
    exact ⟨told rfl (by rw [HR.out]; simp), (box_below _ _).trans ((box_below _ _).mono (by simp))⟩
  · have hx0 : x < 0 := by omega
    obtain ⟨W, eW⟩ : ∃ u, u = (w.alloc (.cells #[.slice na N nc, .slice fa F fc] 25)).alloc (.cells #[.int .i64 n, .int .i64 x, .int .i64 o] 66) := ⟨_, rfl⟩
    have HW : Hid (Below w.heap.size w W ∧ W.heap.size = w.heap.size + 1 + 1) := by subst eW; exact ⟨(box_below _ _).trans ((box_below _ _).mono (by simp)), by simp⟩
    have HBx : Hid (∀ u, Below W.heap.size W u → u.cell? ⟨w.heap.size, 0, none⟩ = some (.slice na N nc) ∧ u.cell? ⟨w.heap.size, 1, none⟩ = some (.slice fa F fc) ∧ u.cell? ⟨w.heap.size + 1, 0, none⟩ = some (.int .i64 n)) := fun u hu => by
      subst eW
      have e1 : (w.alloc (.cells #[.slice na N nc, .slice fa F fc] 25)).heap.size = w.heap.size + 1 := by simp
      refine ⟨keep_alloc hu (cell_of_alloc rfl), keep_alloc hu (cell_of_alloc rfl), ?_⟩
      rw [← e1]
      exact new_alloc hu rfl
    have HEW : Hid ((w.alloc (.cells #[.slice na N nc, .slice fa F fc] 25)).alloc (.cells #[.int .i64 n, .int .i64 x, .int .i64 o] 66) = W) := eW.symm
    have HPW : Hid (Prc W na N nc fa F M K A B) := hp.below HW.out.1
    have HE1 : Hid (K n = 6 → (enb K A B F m ((n : Int), x, o) ↔ ∀ j, j < F → B j = n → 0 < m j)) := fun hK => enb_and hx0 hK
    have HE2 : Hid (K n ≠ 6 → (enb K A B F m ((n : Int), x, o) ↔ (∃ j, j < F ∧ B j = n ∧ 0 < m j) ∧ ¬ ∃ j, j < F ∧ B j = n ∧ m j = 0 ∧ Cm A B F m n j)) := fun hK => enb_or hx0 hK
    have C1 : Hid (Calls Try.prog 54 #[.agg #[.slice na N nc, .slice fa F fc], .int .i64 n] W fun e w' => Below W.heap.size W w' ∧ ∃ a c, e = .returned (.slice a (tally B n F) c) ∧ Row w' a (tally B n F) (fun i => (fl B n F).getD i 0)) := flowsIn_any na fa N nc F fc A B n W HPW.out.fls hF30
    have htl := tally_le B n F
    clear eW hp hmc
    go_enter Try.func56, Try.ntmps56
    go_wp2_with fail
    rw [HEW.out]
    refine C1.out.mono ?_
    rintro e w1 ⟨hb1, ia, ic, rfl, hr1⟩
    have HB1 : Hid (Below W.heap.size W w1) := hb1
    have HBw1 : Hid (Below w.heap.size w w1) := HW.out.1.trans (hb1.mono HW.out.1.size)
    have HRw : Hid (Row w1 ia (tally B n F) (fun i => (fl B n F).getD i 0)) := hr1
    obtain ⟨hc0, hc1, hc2⟩ := HBx.out w1 hb1
    obtain ⟨nb, no, hna, hnc⟩ := (HPW.out.below hb1).nds
    obtain rfl := hna (by omega)
    have hkn := (hnc n hn).2
    have hnN : (n : Int) < N := by omega
    clear hb1 hr1 C1 hna hnc
    go_wp2
    go_loop [8, 9, 10] (fun s a i => ∃ (k c : Nat) (p1 p2 : Bool), k ≤ tally B n F ∧ i = .int .i64 k ∧ s = .bool p1 ∧ a = .bool p2 ∧ Hid (Cnt B m F n k c ∧ (p1 = true ↔ 0 < c) ∧ (p2 = true ↔ c = k))) (fun _ _ i => tally B n F - (intOf i).toNat)
    case atStart => exact ⟨0, 0, false, true, Nat.zero_le _, rfl, rfl, rfl, hid ⟨cnt_zero _ _ _ _, by simp, by simp⟩⟩
    case round =>
      obtain ⟨k, c, p1, p2, hk2, rfl, rfl, rfl, HC⟩ := hrel
      by_cases hlt : k < tally B n F
      · obtain ⟨j, hj1, hj2, hj3, hj4⟩ := fl_place hlt
        obtain ⟨b, o', ha, hc⟩ := HRw.out
        obtain rfl := ha (by omega)
        have hck := hc k hlt
        have hck' : w1.cell? ⟨b, o' + k, none⟩ = some (.int .i64 (j : Nat)) := by rw [hck]; exact congrArg (fun q => some (Value.int .i64 q)) hj1
        obtain rfl := hma (by omega)
        have hmj := row_at HM.out HBw1.out hj2
        have hjF : (j : Int) < F := by omega
        have HJ : Hid (j < F ∧ B j = n ∧ tally B n j = k) := ⟨hj2, hj3, hj4⟩
        clear hck hc ha hj1 hj3 hj4
        by_cases hz : 0 < m j
        · have HC2 : Hid (Cnt B m F n (k + 1) (c + 1)) := HC.out.1.hit HJ.out.1 HJ.out.2.1 HJ.out.2.2 hz
          cases p1 <;> cases p2
          all_goals
            go_wp2
            go_round
            case rel => exact ⟨k + 1, c + 1, _, _, by omega, by go_num, rfl, rfl, hid ⟨HC2.out, by simp, by have := HC.out.2.2; simp at this ⊢; exact this⟩⟩
            case measure => simp [intOf]; omega
        · have HC2 : Hid (Cnt B m F n (k + 1) c) := HC.out.1.miss HJ.out.1 HJ.out.2.1 HJ.out.2.2 hz
          have HLe : Hid (c ≤ k) := HC.out.1.le
          cases p1 <;> cases p2
          all_goals
            go_wp2
            go_round
            case rel => exact ⟨k + 1, c, _, _, by omega, by go_num, rfl, rfl, hid ⟨HC2.out, HC.out.2.1, iff_of_false (by decide) (by have := HLe.out; omega)⟩⟩
            case measure => simp [intOf]; omega
      · obtain rfl : tally B n F = k := by omega
        have HC3 : Hid ((0 < c ↔ ∃ j, j < F ∧ B j = n ∧ 0 < m j) ∧ (c = tally B n F ↔ ∀ j, j < F → B j = n → 0 < m j)) := HC.out.1.full
        by_cases hK : K n = 6
        · have hK' : (K n == 6) = true := beq_iff_eq.2 hK
          have HE3 : Hid (enb K A B F m ((n : Int), x, o) ↔ ∀ j, j < F → B j = n → 0 < m j) := HE1.out hK
          clear hK
          go_wp2
          go_ret
          exact ⟨told rfl (HC.out.2.2.trans (HC3.out.2.trans HE3.out.symm)), HBw1.out⟩
        · have hK' : (K n == 6) = false := beq_eq_false_iff_ne.2 hK
          have HE4 : Hid (enb K A B F m ((n : Int), x, o) ↔ (∃ j, j < F ∧ B j = n ∧ 0 < m j) ∧ ∀ j, j < F → B j = n → ∀ a, a < F → ¬ (m j = 0 ∧ 0 < m a ∧ a ≠ j ∧ Rch A B F n a j)) := by
            have := HE2.out hK
            rw [or_none] at this
            exact this
          have HP1 : Hid (p1 = true ↔ ∃ j, j < F ∧ B j = n ∧ 0 < m j) := HC.out.2.1.trans HC3.out.1
          clear hK
          go_wp2
          go_loopw [11] (fun i wr => ∃ k : Nat, k ≤ tally B n F ∧ i = .int .i64 k ∧ Hid (∀ j, j < F → B j = n → tally B n j < k → ∀ a, a < F → ¬ (m j = 0 ∧ 0 < m a ∧ a ≠ j ∧ Rch A B F n a j)) ∧ Hid (Below w1.heap.size w1 wr)) (fun i _ => tally B n F - (intOf i).toNat)
          case atStart => exact ⟨0, Nat.zero_le _, rfl, hid (fun j _ _ hj => by omega), Below.refl _ _⟩
          case round =>
            obtain ⟨k, hk, rfl, HJ, HBr⟩ := hrel
            by_cases hlt : k < tally B n F
            · obtain ⟨j, hj1, hj2, hj3, hj4⟩ := fl_place hlt
              obtain ⟨b, o', ha, hc⟩ := HRw.out
              obtain rfl := ha (by omega)
              have hck := hc k hlt
              have HCk : Hid (w1.cell? ⟨b, o' + k, none⟩ = some (.int .i64 (j : Nat))) := by show _ = _; rw [hck]; exact congrArg (fun q => some (Value.int .i64 q)) hj1
              obtain rfl := hma (by omega)
              have hjF : (j : Int) < F := by omega
              have HJj : Hid (j < F ∧ B j = n ∧ tally B n j = k) := ⟨hj2, hj3, hj4⟩
              clear hck hc ha hj1 hj3 hj4 hc0 hc1 hc2 hkn
              obtain ⟨w2, e2⟩ : ∃ u, u = wr := ⟨_, rfl⟩
              rw [← e2] at HBr ⊢
              clear e2
              go_wp2
              go_loopw [12] (fun i wr => ∃ q : Nat, q ≤ F ∧ i = .int .i64 q ∧ Hid (∀ a, a < q → ¬ (m j = 0 ∧ 0 < m a ∧ a ≠ j ∧ Rch A B F n a j)) ∧ Hid (Below w1.heap.size w1 wr)) (fun i _ => F - (intOf i).toNat)
              case atStart => exact ⟨0, Nat.zero_le _, rfl, hid (fun a ha => by omega), HBr.out⟩
              case round =>
                obtain ⟨q, hq, rfl, HQ, HBq⟩ := hrel
                have HBqW : Hid (Below W.heap.size W wr) := HB1.out.trans (HBq.out.mono HB1.out.size)
                have HBqw : Hid (Below w.heap.size w wr) := HBw1.out.trans (HBq.out.mono HBw1.out.size)
                by_cases hql : q < F
                · have d1 : wr.cell? ⟨b, o' + k, none⟩ = some (.int .i64 (j : Nat)) := (HBq.out.cell (p := ⟨b, o' + k, none⟩) (World.block_lt_of_cell? _ _ HCk.out)).trans HCk.out
                  have d2 := row_at HM.out HBqw.out hj2
                  have d3 := row_at HM.out HBqw.out hql
                  have hqF : (q : Int) < F := by omega
                  have hki : (k : Int) < (tally B n F : Nat) := by omega
                  by_cases hz : m j = 0
                  · have hz' : (m j == 0) = true := beq_iff_eq.2 hz
                    by_cases hp : 0 < m q
                    · obtain ⟨d4, d5, d6⟩ := HBx.out wr HBqW.out
                      have HZ : Hid (m j = 0 ∧ 0 < m q) := ⟨hz, hp⟩
                      clear hz
                      by_cases hR : q ≠ j ∧ Rch A B F n q j
                      · have HRR : Hid (q ≠ j ∧ Rch A B F n q j) := hR
                        have C3 : Hid (∀ u, Below wr.heap.size wr u → Calls Try.prog 91 #[.agg #[.slice (some ⟨nb, no, none⟩) N nc, .slice fa F fc], .int .i64 (q : Nat), .int .i64 (j : Nat), .int .i64 n] u fun e w' => e = .returned (.bool true) ∧ Below u.heap.size u w') := fun u hu => by
                          refine (gets_any ((HPW.out.below HBqW.out).below hu).fls hF30 hql hj2 n).mono fun e w' ⟨⟨z, h1, h2⟩, h3⟩ => ⟨?_, h3⟩
                          rw [h1, h2.2 HRR.out]
                        clear hR
                        go_wp2
                        go_region_held3 (fun z => z.cell? ⟨b, o' + k, none⟩ = some (.int .i64 (j : Nat)) ∧ z.cell? ⟨mb, mo + j, none⟩ = some (.int .i64 (m j)) ∧ z.cell? ⟨mb, mo + q, none⟩ = some (.int .i64 (m q)) ∧ z.cell? ⟨w.heap.size, 0, none⟩ = some (.slice (some ⟨nb, no, none⟩) N nc) ∧ z.cell? ⟨w.heap.size, 1, none⟩ = some (.slice fa F fc) ∧ z.cell? ⟨w.heap.size + 1, 0, none⟩ = some (.int .i64 n))
                          (first | (exact ⟨by assumption, by assumption, by assumption, by assumption, by assumption, by assumption⟩) | go_keep)
                          (first | (go_at_call 91; refine (C3.out _ (below_drew_iff.2 (Below.refl _ _))).mono ?_; rintro e w5 ⟨rfl, hb5⟩; have hb5' : Below wr.heap.size wr w5 := (below_drew_iff.2 (Below.refl _ _)).trans hb5; obtain ⟨x0, x1, x2⟩ := HBx.out w5 (HBqW.out.trans (hb5'.mono HBqW.out.size)); have x3 := (hb5'.cell (p := ⟨b, o' + k, none⟩) (World.block_lt_of_cell? _ _ d1)).trans d1; have x4 := (hb5'.cell (p := ⟨mb, mo + j, none⟩) (World.block_lt_of_cell? _ _ d2)).trans d2; have x5 := (hb5'.cell (p := ⟨mb, mo + q, none⟩) (World.block_lt_of_cell? _ _ d3)).trans d3; dsimp only))
                        have HB5 : Hid (Below w.heap.size w w5) := HBqw.out.trans (hb5'.mono HBqw.out.size)
                        clear hb5 hb5' C3
                        go_wp2
                        go_ret
                        exact ⟨told rfl (iff_of_false (by decide) (fun hh => (HE4.out.1 hh).2 j HJj.out.1 HJj.out.2.1 q hql ⟨HZ.out.1, HZ.out.2, HRR.out⟩)), HB5.out⟩
                      · have HRR : Hid (¬ (q ≠ j ∧ Rch A B F n q j)) := hR
                        have C3 : Hid (∀ u, Below wr.heap.size wr u → Calls Try.prog 91 #[.agg #[.slice (some ⟨nb, no, none⟩) N nc, .slice fa F fc], .int .i64 (q : Nat), .int .i64 (j : Nat), .int .i64 n] u fun e w' => e = .returned (.bool false) ∧ Below u.heap.size u w') := fun u hu => by
                          refine (gets_any ((HPW.out.below HBqW.out).below hu).fls hF30 hql hj2 n).mono fun e w' ⟨⟨z, h1, h2⟩, h3⟩ => ⟨?_, h3⟩
                          cases z
                          · exact h1
                          · exact absurd (h2.1 rfl) HRR.out
                        clear hR
                        go_wp2
                        go_region_held3 (fun z => z.cell? ⟨b, o' + k, none⟩ = some (.int .i64 (j : Nat)) ∧ z.cell? ⟨mb, mo + j, none⟩ = some (.int .i64 (m j)) ∧ z.cell? ⟨mb, mo + q, none⟩ = some (.int .i64 (m q)) ∧ z.cell? ⟨w.heap.size, 0, none⟩ = some (.slice (some ⟨nb, no, none⟩) N nc) ∧ z.cell? ⟨w.heap.size, 1, none⟩ = some (.slice fa F fc) ∧ z.cell? ⟨w.heap.size + 1, 0, none⟩ = some (.int .i64 n))
                          (first | (exact ⟨by assumption, by assumption, by assumption, by assumption, by assumption, by assumption⟩) | go_keep)
                          (first | (go_at_call 91; refine (C3.out _ (below_drew_iff.2 (Below.refl _ _))).mono ?_; rintro e w5 ⟨rfl, hb5⟩; have hb5' : Below wr.heap.size wr w5 := (below_drew_iff.2 (Below.refl _ _)).trans hb5; obtain ⟨x0, x1, x2⟩ := HBx.out w5 (HBqW.out.trans (hb5'.mono HBqW.out.size)); have x3 := (hb5'.cell (p := ⟨b, o' + k, none⟩) (World.block_lt_of_cell? _ _ d1)).trans d1; have x4 := (hb5'.cell (p := ⟨mb, mo + j, none⟩) (World.block_lt_of_cell? _ _ d2)).trans d2; have x5 := (hb5'.cell (p := ⟨mb, mo + q, none⟩) (World.block_lt_of_cell? _ _ d3)).trans d3; dsimp only))
                        have HB5 : Hid (Below w1.heap.size w1 w5) := HBq.out.trans (hb5'.mono HBq.out.size)
                        clear hb5 hb5' C3
                        go_wp2
                        go_roundw
                        case rel => exact ⟨q + 1, by omega, by go_num, hid (snoc_all HQ.out (fun hh => HRR.out hh.2.2)), HB5.out⟩
                        case measure => simp [intOf]; omega
                    · have hdec : decide (0 < m q) = false := decide_eq_false hp
                      have HZ : Hid (¬ 0 < m q) := hp
                      clear hz
                      go_wp2
                      go_quiet (fail)
                      go_wp2
                      go_roundw
                      case rel => exact ⟨q + 1, by omega, by go_num, hid (snoc_all HQ.out (fun hh => by have h1 := HZ.out; have h2 := hh.2.1; omega)), below_drewn HBq.out _⟩
                      case measure => simp [intOf]; omega
                  · have hz' : (m j == 0) = false := beq_eq_false_iff_ne.2 hz
                    have HZ : Hid (m j ≠ 0) := hz
                    clear hz
                    go_wp2
                    go_quiet (fail)
                    go_wp2
                    go_roundw
                    case rel => exact ⟨q + 1, by omega, by go_num, hid (snoc_all HQ.out (fun hh => HZ.out hh.1)), below_drewn HBq.out _⟩
                    case measure => simp [intOf]; omega
                · obtain rfl : F = q := by omega
                  go_wp2
                  go_roundw
                  case rel =>
                    refine ⟨k + 1, by omega, by go_num, hid (fun j' h1 h2 h3 a ha => ?_), HBq.out⟩
                    by_cases e : tally B n j' < k
                    · exact HJ.out j' h1 h2 e a ha
                    · obtain rfl : j' = j := place_uniq h2 HJj.out.2.1 (by have := HJj.out.2.2; omega)
                      exact HQ.out a ha
                  case measure => simp [intOf]; omega
            · obtain rfl : tally B n F = k := by omega
              go_wp2
              go_ret
              exact ⟨told rfl (HP1.out.trans ⟨fun h => HE4.out.2 ⟨h, fun j h1 h2 a ha => HJ.out j h1 h2 (place_lt h1 h2) a ha⟩, fun h => (HE4.out.1 h).1⟩), HBw1.out.trans (HBr.out.mono HBw1.out.size)⟩

end Go.Proofs.Ythpbgfodejoecaa

namespace Go.Proofs.Ythpbgfodejoecaa
open Go.RowKit

/-- What Begin has laid till flow k. -/
structure Bgr (w wr : World) (c : Array Value) (F : Nat) (K A : Nat → Int) (k : Nat) : Prop where
  below : Below (w.heap.size + 1) (w.alloc (.cells c 25)) wr
  row : wr.rowIs (w.heap.size + 1) 3 F (fun i => .int .i64 (if i < k then bgn K A i else 0))

theorem bgr_start (w : World) (c : Array Value) (F : Nat) (K A : Nat → Int) : Bgr w ((w.alloc (.cells c 25)).alloc (.cells (madeCells #[.int .i64 0] F) 3)) c F K A 0 := by
  refine ⟨(Below.refl _ _).alloc (by simp) _, ?_⟩
  have := World.rowIs_made (w.alloc (.cells c 25)) (.int .i64 0) F 3
  have e : (w.alloc (.cells c 25)).heap.size = w.heap.size + 1 := by simp
  rw [e] at this
  exact this.congr (fun i _ => by simp)

theorem Bgr.hit {w wr : World} {c : Array Value} {F : Nat} {K A : Nat → Int} {k q : Nat} (h : Bgr w wr c F K A k) (hb : bgn K A k = 1) : Bgr w ((wr.setCell ⟨w.heap.size + 1, k, none⟩ (.int .i64 1)).drewN q) c F K A (k + 1) := by
  refine ⟨below_drewn (h.below.setCell (by show w.heap.size + 1 ≤ w.heap.size + 1; omega) _) q, ?_⟩
  refine World.rowIs.of_block (w := wr.setCell ⟨w.heap.size + 1, k, none⟩ (.int .i64 1)) ((h.row.set k _).congr (fun i _ => ?_)) rfl
  by_cases e : i = k
  · subst e
    simp [hb]
  · by_cases e2 : i < k
    · simp [e, e2, Nat.lt_succ_of_lt e2]
    · simp [e, e2, show ¬ i < k + 1 by omega]

theorem Bgr.miss {w wr : World} {c : Array Value} {F : Nat} {K A : Nat → Int} {k q : Nat} (h : Bgr w wr c F K A k) (hb : bgn K A k = 0) : Bgr w (wr.drewN q) c F K A (k + 1) := by
  refine ⟨below_drewn h.below q, ?_⟩
  refine World.rowIs.of_block (w := wr) (h.row.congr (fun i _ => ?_)) rfl
  by_cases e : i = k
  · subst e
    simp [hb]
  · by_cases e2 : i < k
    · simp [e2, Nat.lt_succ_of_lt e2]
    · simp [e2, show ¬ i < k + 1 by omega]

set_option maxHeartbeats 1000000 in
theorem beginRef_any {na fa : Option Addr} {N nc F fc : Nat} {M : Nat → ByteArray} {K A B : Nat → Int} {w : World} (hp : Prc w na N nc fa F M K A B) (he : ChkIs N F M K A B 0) :
    Calls Try.prog 29 #[.agg #[.slice na N nc, .slice fa F fc]] w fun e w' => Below w.heap.size w w' ∧ ∃ g, e = .returned (.slice (some ⟨g, 0, none⟩) F F) ∧ Mk w' g F (bgn K A) := by
  have HN : Hid (Nds w na N M K) := hp.nds
  have HF : Hid (Fls w fa F A B) := hp.fls
  have hz := chk_zero he
  have HE : Hid (∀ i, i < F → (0 ≤ A i ∧ A i < N) ∧ (0 ≤ B i ∧ B i < N)) := endsOk_all hz.2.2.1
  have hF30 : F ≤ 30 := hz.1.2
  have hN20 : N ≤ 20 := hz.1.1
  clear hz hp he
  have hmk := run_make_row' (P := Try.prog) 26 3 (.int .i64 0) 8 Try.underlying26 Try.info3 rfl .i64 .i64 F (by omega) (by omega)
  have HS : Hid (Bgr w ((w.alloc (.cells #[.slice na N nc, .slice fa F fc] 25)).alloc (.cells (madeCells #[.int .i64 0] F) 3)) #[.slice na N nc, .slice fa F fc] F K A 0) := bgr_start _ _ _ _ _
  go_enter Try.func29, Try.ntmps29
  go_wp2
  clear hmk
  go_loopw [4] (fun i wr => ∃ k : Nat, k ≤ F ∧ i = .int .i64 k ∧ Hid (Bgr w wr #[.slice na N nc, .slice fa F fc] F K A k)) (fun i _ => F - (intOf i).toNat)
  case atStart => exact ⟨0, Nat.zero_le _, rfl, HS.out⟩
  case round =>
    obtain ⟨k, hk, rfl, HT⟩ := hrel
    clear HS
    have HB : Hid (Below w.heap.size w wr) := (box_below _ _).trans (HT.out.below.mono (by omega))
    by_cases hlt : k < F
    · obtain ⟨b, o, ha, hc⟩ := HF.out
      obtain rfl := ha (by omega)
      obtain ⟨h1, h2⟩ := Fls.at hc HB.out hlt
      have hE := HE.out k hlt
      obtain ⟨x, hx⟩ : ∃ x : Nat, A k = x := ⟨(A k).toNat, by omega⟩
      have hxN : x < N := by omega
      have hxN' : (x : Int) < N := by omega
      have hki : (k : Int) < F := by omega
      rw [hx] at h1
      obtain ⟨b2, o2, ha2, hc2⟩ := HN.out
      obtain rfl := ha2 (by omega)
      obtain ⟨h3, h4⟩ := Nds.at hc2 HB.out hxN
      have hp0 : wr.cell? ⟨w.heap.size, 0, none⟩ = some (.slice (some ⟨b2, o2, none⟩) N nc) := box_keep HT.out.below rfl
      have hp1 : wr.cell? ⟨w.heap.size, 1, none⟩ = some (.slice (some ⟨b, o, none⟩) F fc) := box_keep HT.out.below rfl
      have h5 : wr.cell? ⟨w.heap.size + 1, k, none⟩ = some (.int .i64 (if k < k then bgn K A k else 0)) := HT.out.row.cell hlt
      rw [if_neg (Nat.lt_irrefl k)] at h5
      have h6 := HT.out.row.frozen k
      have HX : Hid (bgn K A k = if K x = 1 then 1 else 0) := by show bgn K A k = _; unfold bgn; rw [hx]; simp
      clear hc hc2 ha ha2 hE hx
      by_cases hK : K x = 1
      · have hb' : (K x == 1) = true := beq_iff_eq.2 hK
        have HT3 : Hid (∀ q, Bgr w ((wr.setCell ⟨w.heap.size + 1, k, none⟩ (.int .i64 1)).drewN q) #[.slice (some ⟨b2, o2, none⟩) N nc, .slice (some ⟨b, o, none⟩) F fc] F K A (k + 1)) := fun q => HT.out.hit (by rw [HX.out, if_pos hK])
        clear HT hK
        go_wp2
        go_quiet (fail)
        go_wp2
        go_roundw
        case rel => exact ⟨k + 1, by omega, by go_num, HT3.out _⟩
        case measure => simp [intOf]; omega
      · have hb' : (K x == 1) = false := beq_eq_false_iff_ne.2 hK
        have HT3 : Hid (∀ q, Bgr w (wr.drewN q) #[.slice (some ⟨b2, o2, none⟩) N nc, .slice (some ⟨b, o, none⟩) F fc] F K A (k + 1)) := fun q => HT.out.miss (by rw [HX.out, if_neg hK])
        clear HT hK
        go_wp2
        go_quiet (fail)
        go_wp2
        go_roundw
        case rel => exact ⟨k + 1, by omega, by go_num, HT3.out _⟩
        case measure => simp [intOf]; omega
    · obtain rfl : F = k := by omega
      go_wp2
      go_ret
      exact ⟨HB.out, _, rfl, F, _, Nat.le_refl _, HT.out.row, fun i hi => by rw [if_pos hi]⟩

end Go.Proofs.Ythpbgfodejoecaa
