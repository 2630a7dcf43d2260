/- The document's Enabled. -/
import Derived.Test.YtjenkhphngiphaaRefMay
import Derived.Test.YtjenkhphngiphaaGameFire
namespace Go.Proofs.Ytjenkhphngiphaa
open Go.RowKit

set_option maxHeartbeats 2000000 in
theorem enabledRef_any {na fa : Option Addr} {N nc F fc : Nat} {M : Nat → ByteArray} {K A B : Nat → Int} {w : World} (hp : Prc w na N nc fa F M K A B) (he : ChkIs N F M K A B 0) {la : Option Addr} {lc : Nat} (hl : (stAll K A B F N).length ≤ 60) (hst : Sts w la (stAll K A B F N).length (fun i => (stAll K A B F N).getD i (0, 0, 0))) {ma : Option Addr} {mc : Nat} {m : Nat → Int} (hm : Row w ma F m)
    (X : Nat → Int) (hX : ∀ i, i < (stAll K A B F N).length → (X i = 1 ↔ enb K A B F m ((stAll K A B F N).getD i (0, 0, 0)))) :
    Calls Try.prog 28 #[.agg #[.slice na N nc, .slice fa F fc], .slice la (stAll K A B F N).length lc, .slice ma F mc] w fun e w' => Below w.heap.size w w' ∧ ∃ a c, e = .returned (.slice a (tally X 1 (stAll K A B F N).length) c) ∧ Row w' a (tally X 1 (stAll K A B F N).length) (fun i => (fl X 1 (stAll K A B F N).length).getD i 0) := by
  have HM : Hid (Row w ma F m) := hm
  have HX : Hid (∀ i, i < (stAll K A B F N).length → (X i = 1 ↔ enb K A B F m ((stAll K A B F N).getD i (0, 0, 0)))) := hX
  have HSt : Hid (Sts w la (stAll K A B F N).length (fun i => (stAll K A B F N).getD i (0, 0, 0))) := hst
  have HMem : Hid (∀ i, i < (stAll K A B F N).length → (stAll K A B F N).getD i (0, 0, 0) ∈ stAll K A B F N) := fun i hi => getD3_mem hi
  have hF30 : F ≤ 30 := (chk_zero he).1.2
  have hF0 : 0 < F := chk_some he
  obtain ⟨i0, hi, hz0, hz1, hz2⟩ := info_parts Try.info3
  have HI : Hid (Try.prog.info? 3 = some i0 ∧ i0.zero = some (.int .i64 0) ∧ i0.size = 1 ∧ i0.bytes = 8) := ⟨hi, hz0, hz1, hz2⟩
  obtain ⟨W, eW⟩ : ∃ x, x = w.alloc (.cells #[.slice na N nc, .slice fa F fc] 25) := ⟨_, rfl⟩
  have HW : Hid (Below w.heap.size w W ∧ W.heap.size = w.heap.size + 1) := by subst eW; exact ⟨box_below _ _, by simp⟩
  have HBx : Hid (∀ w1, Below W.heap.size W w1 → w1.cell? ⟨w.heap.size, 0, none⟩ = some (.slice na N nc) ∧ w1.cell? ⟨w.heap.size, 1, none⟩ = some (.slice fa F fc)) := fun w1 h => by
    subst eW
    exact ⟨new_alloc h rfl, new_alloc h rfl⟩
  have HEW : Hid (w.alloc (.cells #[.slice na N nc, .slice fa F fc] 25) = W) := eW.symm
  have HPW : Hid (Prc W na N nc fa F M K A B) := hp.below HW.out.1
  clear eW hp he hm hX hst hi hz0 hz1 hz2
  generalize hla : stAll K A B F N = ls at *
  have HLa : Hid (stAll K A B F N = ls) := hla
  clear hla
  go_enter Try.func28, Try.ntmps28
  go_wp2
  rw [HEW.out]
  go_loopw [7, 8] (fun v i wr => ∃ (k : Nat) (va : Option Addr) (vc : Nat), k ≤ ls.length ∧ i = .int .i64 k ∧ v = .slice va (tally X 1 k) vc ∧ Hid (Below W.heap.size W wr ∧ wr.ownsRow W.heap.size 3 1 (.slice va (tally X 1 k) vc) (tally X 1 k) (vals (fl X 1 k)))) (fun _ i _ => ls.length - (intOf i).toNat)
  case atStart => exact ⟨0, none, 0, Nat.zero_le _, rfl, rfl, hid ⟨Below.refl _ _, World.ownsRow_nil _ _ _ _⟩⟩
  case round =>
    obtain ⟨k, va, vc, hk, rfl, rfl, HS⟩ := hrel
    have HBw : Hid (Below w.heap.size w wr) := HW.out.1.trans (HS.out.1.mono HW.out.1.size)
    by_cases hlt : k < ls.length
    · obtain ⟨sb, so, hsa, hsc⟩ := HSt.out
      obtain rfl := hsa (by omega)
      obtain ⟨hc0, hc1, hc2⟩ := Sts.at hsc HBw.out hlt
      have hmem := HMem.out k hlt
      rw [← HLa.out] at hmem
      obtain ⟨j, hj, ht1, ht2, ht3, ht4⟩ := step_facts hmem
      rw [HLa.out] at ht1 ht2 ht3 ht4
      have HXk1 := HX.out k hlt
      obtain ⟨t, ht⟩ : ∃ t, t = ls.getD k (0, 0, 0) := ⟨_, rfl⟩
      rw [← ht] at ht1 ht2 ht3 ht4 hc0 hc1 hc2 HXk1
      obtain ⟨t1, x, o⟩ := t
      simp only at ht1 ht2 ht3 ht4 hc0 hc1 hc2
      subst ht1
      have hxn : x < (F : Int) := by rcases ht2 with h2 | ⟨q, h2, h5, _⟩ <;> omega
      obtain ⟨a0, a1⟩ := HBx.out wr HS.out.1
      obtain ⟨z, hz⟩ : ∃ z : Bool, z = true ↔ X k = 1 := ⟨decide (X k = 1), by simp⟩
      have HZ : Hid (z = true ↔ X k = 1) := hz
      have C3 : Hid (∀ u, Below wr.heap.size wr u → Calls Try.prog 54 #[.agg #[.slice na N nc, .slice fa F fc], .slice ma F mc, .agg #[.int .i64 j, .int .i64 x, .int .i64 o]] u fun e w' => e = .returned (.bool z) ∧ Below u.heap.size u w') := fun u hu => by
        refine (may_any ((HPW.out.below HS.out.1).below hu) hF30 ((HM.out.below HBw.out).below hu) hj hxn).mono fun e w' ⟨⟨y, h1, h2⟩, h3⟩ => ⟨?_, h3⟩
        have : y = z := by
          rw [Bool.eq_iff_iff]
          exact (h2.trans HXk1.symm).trans hz.symm
        rw [h1, this]
      have hkl : (k : Int) < ls.length := by omega
      have htl := tally_le X 1 k
      clear ht2 ht3 ht4 ht HXk1 hmem hsc hsa hz
      go_wp2
      go_region_held3 (fun u => u.cell? ⟨w.heap.size, 0, none⟩ = some (.slice na N nc) ∧ u.cell? ⟨w.heap.size, 1, none⟩ = some (.slice fa F fc) ∧ u.cell? ⟨sb, so + k * 3, none⟩ = some (.int .i64 j) ∧ u.cell? ⟨sb, so + k * 3 + 1, none⟩ = some (.int .i64 x) ∧ u.cell? ⟨sb, so + k * 3 + 2, none⟩ = some (.int .i64 o))
        (first | (exact ⟨by assumption, by assumption, by assumption, by assumption, by assumption⟩) | go_keep)
        (first | (go_at_call 54; refine (C3.out _ (below_drew_iff.2 (Below.refl _ _))).mono ?_; rintro e w5 ⟨rfl, hb5⟩; have hb5' : Below wr.heap.size wr w5 := (below_drew_iff.2 (Below.refl _ _)).trans hb5; obtain ⟨x0, x1⟩ := HBx.out w5 (HS.out.1.trans (hb5'.mono HS.out.1.size)); have x3 := (hb5'.cell (p := ⟨sb, so + k * 3, none⟩) (World.block_lt_of_cell? _ _ hc0)).trans hc0; have x4 := (hb5'.cell (p := ⟨sb, so + k * 3 + 1, none⟩) (World.block_lt_of_cell? _ _ hc1)).trans hc1; have x5 := (hb5'.cell (p := ⟨sb, so + k * 3 + 2, none⟩) (World.block_lt_of_cell? _ _ hc2)).trans hc2; dsimp only))
      have HB3 : Hid (Below W.heap.size W w5) := HS.out.1.trans (hb5'.mono HS.out.1.size)
      have HO3 : Hid (w5.ownsRow W.heap.size 3 1 (.slice va (tally X 1 k) vc) (tally X 1 k) (vals (fl X 1 k))) := below_ownsRow HS.out.2 hb5'
      have HSz3 : Hid (W.heap.size ≤ w5.heap.size) := HB3.out.size
      clear hb5 hb5' C3 hc0 hc1 hc2 a0 a1 x0 x1 x3 x4 x5
      cases hzz : z
      · have HXk : Hid (X k ≠ 1) := fun hh => by have := HZ.out.2 hh; rw [hzz] at this; cases this
        clear hzz HZ
        go_wp2
        go_roundw
        case rel => exact ⟨k + 1, va, vc, by omega, by go_num, by rw [tally_miss HXk.out], hid ⟨HB3.out, by have := HO3.out; rw [tally_miss HXk.out, fl_miss HXk.out]; exact this⟩⟩
        case measure => simp [intOf]; omega
      · have HXk : Hid (X k = 1) := HZ.out.1 hzz
        clear hzz HZ
        go_wp2_with (at_builtin; refine wpList_append_own_at _ rfl _ _ 26 rfl W.heap.size 3 i0 (.int .i64 0) 1 8 Try.underlying26 HI.out.1 HI.out.2.1 HI.out.2.2.1 HI.out.2.2.2 rfl (by decide) _ _ _ rfl (HO3.out.alloc _) ⟨w5.heap.size, 0, none⟩ 1 1 [.int .i64 k] rfl rfl (cell_one_new _ _ _) (ints_oneCell .i64 [(k : Int)]) (by unfold maxLen; omega) (by omega) (by have := HSz3.out; simp; omega) ?_; intro v' w6 hown hgrow _ _; obtain ⟨⟨a4, c4, rfl⟩, H4⟩ := fl_step HB3.out HO3.out HXk.out hown hgrow; clear hown hgrow)
        go_roundw
        case rel => exact ⟨k + 1, a4, c4, by omega, by go_num, by rw [tally_hit HXk.out], hid ⟨H4.out.1, by have := H4.out.2; rw [tally_hit HXk.out] at this ⊢; exact this⟩⟩
        case measure => simp [intOf]; omega
    · obtain rfl : ls.length = k := by omega
      go_wp2
      go_ret
      exact ⟨HBw.out, va, vc, rfl, fl_row HS.out.2⟩

end Go.Proofs.Ytjenkhphngiphaa
