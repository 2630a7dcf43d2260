/- Begin, Enabled, Fire: of a board, of a process. -/
import Derived.Test.YthpbgfodejoecaaGameLay
namespace Go.Proofs.Ythpbgfodejoecaa
open Go.RowKit

theorem spE_zero {e0 : Int} {n : Nat} (h : spE e0 n = 0) : e0 = 0 ∧ n ≤ 60 := by
  unfold spE at h
  by_cases h1 : e0 = 0
  · rw [if_pos h1] at h
    by_cases h2 : n ≤ 60
    · exact ⟨h1, h2⟩
    · rw [if_neg h2] at h; cases h
  · rw [if_neg h1] at h
    exact absurd h h1

/-- An error and no list. -/
def Err (E : Int) (e : Ending) : Prop := e = .returned (.tuple #[.slice none 0 0, .int .i64 E])

/-- The error, or what is answered without one. -/
def Ans (E : Int) (P : Ending → World → Prop) (e : Ending) (w : World) : Prop := E ≠ 0 ∧ Err E e ∨ E = 0 ∧ P e w

set_option maxHeartbeats 2000000 in
theorem enabledB_own {na fa sa ia oa : Option Addr} {N nc F fc sc ic oc : Nat} {M : Nat → ByteArray} {K A B : Nat → Int} {l : List St3} {w : World} (h : Brd w na N nc fa F sa ia oa M K A B l) {ma : Option Addr} {mc : Nat} {m : Nat → Int} (hm : Row w ma F m) (h9 : ∀ i, i < F → 0 ≤ m i ∧ m i ≤ 9)
    (X : Nat → Int) (hX : ∀ i, i < l.length → (X i = 1 ↔ enb K A B F m (l.getD i (0, 0, 0)))) :
    Calls Try.prog 44 #[.agg #[.slice na N nc, .slice fa F fc, .slice sa l.length sc, .slice ia N ic, .slice oa N oc], .slice ma F mc] w fun e w' => Below w.heap.size w w' ∧ ∃ a c, e = .returned (.tuple #[.slice a (tally X 1 l.length) c, .int .i64 0]) ∧ w'.ownsRow w.heap.size 3 1 (.slice a (tally X 1 l.length) c) (tally X 1 l.length) (vals (fl X 1 l.length)) := by
  have HM : Hid (Row w ma F m) := hm
  have HX : Hid (∀ i, i < l.length → (X i = 1 ↔ enb K A B F m (l.getD i (0, 0, 0)))) := hX
  obtain ⟨i0, hi, hz0, hz1, hz2⟩ := info_parts Try.info3
  have HI : Hid (Try.prog.info? 3 = some i0 ∧ i0.zero = some (.int .i64 0) ∧ i0.size = 1 ∧ i0.bytes = 8) := ⟨hi, hz0, hz1, hz2⟩
  have hfew := h.few
  have hF30 : F ≤ 30 := (chk_zero h.chk).1.2
  have HLis : Hid (∀ i, i < l.length → l.getD i (0, 0, 0) ∈ stAll K A B F N) := fun i hi => by rw [← h.lis]; exact getD3_mem hi
  obtain ⟨W, eW⟩ : ∃ x, x = w.alloc (.cells #[.slice na N nc, .slice fa F fc, .slice sa l.length sc, .slice ia N ic, .slice oa N oc] 94) := ⟨_, rfl⟩
  have HW : Hid (Below w.heap.size w W ∧ W.heap.size = w.heap.size + 1) := by subst eW; exact ⟨box_below _ _, by simp⟩
  have HEW : Hid (w.alloc (.cells #[.slice na N nc, .slice fa F fc, .slice sa l.length sc, .slice ia N ic, .slice oa N oc] 94) = W) := eW.symm
  have HBx : Hid (∀ u, Below W.heap.size W u → u.cell? ⟨w.heap.size, 0, none⟩ = some (.slice na N nc) ∧ u.cell? ⟨w.heap.size, 1, none⟩ = some (.slice fa F fc) ∧ u.cell? ⟨w.heap.size, 2, none⟩ = some (.slice sa l.length sc) ∧ u.cell? ⟨w.heap.size, 3, none⟩ = some (.slice ia N ic) ∧ u.cell? ⟨w.heap.size, 4, none⟩ = some (.slice oa N oc)) := fun u hu => by
    subst eW
    exact ⟨new_alloc hu rfl, new_alloc hu rfl, new_alloc hu rfl, new_alloc hu rfl, new_alloc hu rfl⟩
  have HOk : Hid (mkOk F F m = true) := mkOk_yes h9
  have C0 : Hid (Calls Try.prog 74 #[.agg #[.slice na N nc, .slice fa F fc, .slice sa l.length sc, .slice ia N ic, .slice oa N oc], .slice ma F mc] W fun e w' => e = .returned (.bool (mkOk F F m)) ∧ Below W.heap.size W w') := isMarking_any _ _ _ _ _ N nc F fc _ sc N ic N oc _ F mc m W (by omega) (hm.below HW.out.1)
  have HBrd0 : Hid (Brd W na N nc fa F sa ia oa M K A B l) := h.below HW.out.1
  clear eW h hm h9 hX hi hz0 hz1 hz2
  go_enter Try.func44, Try.ntmps44
  go_wp2_with fail
  rw [HEW.out]
  refine C0.out.mono ?_
  rintro e W2 ⟨he, hb0⟩
  rw [HOk.out] at he
  subst he
  have HB0 : Hid (Below W.heap.size W W2) := hb0
  have HBw2 : Hid (Below w.heap.size w W2) := HW.out.1.trans (hb0.mono HW.out.1.size)
  have hsz2 : w.heap.size < W2.heap.size := by have := hb0.size; have := HW.out.2; omega
  have HBrd : Hid (Brd W2 na N nc fa F sa ia oa M K A B l) := HBrd0.out.below hb0
  obtain ⟨a0, a1, a2, a3, a4⟩ := HBx.out W2 hb0
  clear hb0 C0 HBrd0
  go_wp2
  clear a0 a1 a2 a3 a4
  go_loopw [6, 16] (fun v i wr => ∃ (k : Nat) (va : Option Addr) (vc : Nat), k ≤ l.length ∧ i = .int .i64 k ∧ v = .slice va (tally X 1 k) vc ∧ Hid (Below W2.heap.size W2 wr ∧ wr.ownsRow W2.heap.size 3 1 (.slice va (tally X 1 k) vc) (tally X 1 k) (vals (fl X 1 k)))) (fun _ i _ => l.length - (intOf i).toNat)
  case atStart => exact ⟨0, none, 0, Nat.zero_le _, rfl, rfl, hid ⟨Below.refl _ _, World.ownsRow_nil _ _ _ _⟩⟩
  case round =>
    obtain ⟨k, va, vc, hk, rfl, rfl, HS⟩ := hrel
    have HBw : Hid (Below w.heap.size w wr) := HBw2.out.trans (HS.out.1.mono HBw2.out.size)
    by_cases hlt : k < l.length
    · obtain ⟨sb, so, hsa, hsc⟩ := HBrd.out.sts
      obtain rfl := hsa (by omega)
      obtain ⟨hc0, hc1, hc2⟩ := Sts.at hsc HS.out.1 hlt
      have hmem := HLis.out k hlt
      obtain ⟨j, hj, ht1, ht2, ht3, ht4⟩ := step_facts hmem
      have HXk1 := HX.out k hlt
      obtain ⟨t, ht⟩ : ∃ t, t = l.getD k (0, 0, 0) := ⟨_, rfl⟩
      rw [← ht] at ht1 ht2 ht3 ht4 hc0 hc1 hc2 HXk1
      obtain ⟨t1, x, o⟩ := t
      simp only at ht1 ht2 ht3 ht4 hc0 hc1 hc2
      subst ht1
      have hxn : x < (F : Int) := by
        have h0 := chk_some HBrd.out.chk
        rcases ht2 with h2 | ⟨q, h2, h5, _⟩ <;> omega
      have HXk2 : Hid (X k = 1 ↔ enb K A B F m ((j : Int), x, o)) := HXk1
      have hsl : sb < wr.heap.size := World.block_lt_of_cell? _ _ hc0
      obtain ⟨a0, a1, a2, a3, a4⟩ := HBx.out wr (HB0.out.trans (HS.out.1.mono HB0.out.size))
      have hs1 : w.heap.size < wr.heap.size := by have := HS.out.1.size; omega
      obtain ⟨U, eU⟩ : ∃ u, u = wr.alloc (.cells #[.int .i64 j, .int .i64 x, .int .i64 o] 66) := ⟨_, rfl⟩
      have HU : Hid (Below wr.heap.size wr U) := by subst eU; exact box_below _ _
      have HEU : Hid (wr.alloc (.cells #[.int .i64 j, .int .i64 x, .int .i64 o] 66) = U) := eU.symm
      have HB2 : Hid (Below W2.heap.size W2 U) := HS.out.1.trans (HU.out.mono HS.out.1.size)
      have C3 : Hid (Calls Try.prog 75 #[.agg #[.slice na N nc, .slice fa F fc, .slice (some ⟨sb, so, none⟩) l.length sc, .slice ia N ic, .slice oa N oc], .slice ma F mc, .agg #[.int .i64 j, .int .i64 x, .int .i64 o]] U fun e w' => Told (enb K A B F m ((j : Int), x, o)) e ∧ Below U.heap.size U w') := isEnabled_any (HBrd.out.below HB2.out) (HM.out.below (HBw.out.trans (HU.out.mono HBw.out.size))) hj hxn
      clear ht2 ht3 ht4 ht HXk1 hmem hsc hsa eU
      have htl := tally_le X 1 k
      go_wp2_with fail
      rw [HEU.out]
      refine C3.out.mono ?_
      rintro e w3 ⟨⟨z, rfl, hz⟩, hb3⟩
      have HB3 : Hid (Below W2.heap.size W2 w3) := HB2.out.trans (hb3.mono HB2.out.size)
      have HO3 : Hid (w3.ownsRow W2.heap.size 3 1 (.slice va (tally X 1 k) vc) (tally X 1 k) (vals (fl X 1 k))) := below_ownsRow (below_ownsRow HS.out.2 HU.out) hb3
      have HSz3 : Hid (W2.heap.size ≤ w3.heap.size) := HB3.out.size
      have HZ : Hid (z = true ↔ X k = 1) := hz.trans HXk2.out.symm
      clear hz hb3 C3 hc0 hc1 hc2 a0 a1 a2 a3 a4
      cases hzz : z
      · have HXk : Hid (X k ≠ 1) := fun hh => by have := HZ.out.2 hh; rw [hzz] at this; cases this
        clear hzz HZ
        go_wp2
        go_roundw
        case rel => exact ⟨k + 1, va, vc, by omega, by go_num, by rw [tally_miss HXk.out], hid ⟨HB3.out, by have := HO3.out; rw [tally_miss HXk.out, fl_miss HXk.out]; exact this⟩⟩
        case measure => simp [intOf]; omega
      · have HXk : Hid (X k = 1) := HZ.out.1 hzz
        clear hzz HZ
        go_wp2_with (at_builtin; refine wpList_append_own_at _ rfl _ _ 26 rfl W2.heap.size 3 i0 (.int .i64 0) 1 8 Try.underlying26 HI.out.1 HI.out.2.1 HI.out.2.2.1 HI.out.2.2.2 rfl (by decide) _ _ _ rfl (HO3.out.alloc _) ⟨w3.heap.size, 0, none⟩ 1 1 [.int .i64 k] rfl rfl (cell_one_new _ _ _) (ints_oneCell .i64 [(k : Int)]) (by unfold maxLen; omega) (by omega) (by have := HSz3.out; simp; omega) ?_; intro v' w4 hown hgrow _ _; obtain ⟨⟨a4, c4, rfl⟩, H4⟩ := fl_step HB3.out HO3.out HXk.out hown hgrow; clear hown hgrow)
        go_roundw
        case rel => exact ⟨k + 1, a4, c4, by omega, by go_num, by rw [tally_hit HXk.out], hid ⟨H4.out.1, by have := H4.out.2; rw [tally_hit HXk.out] at this ⊢; exact this⟩⟩
        case measure => simp [intOf]; omega
    · obtain rfl : l.length = k := by omega
      go_wp2
      go_ret2
      exact ⟨HBw.out, va, vc, rfl, owns_base HS.out.2 HBw2.out.size⟩

end Go.Proofs.Ythpbgfodejoecaa
