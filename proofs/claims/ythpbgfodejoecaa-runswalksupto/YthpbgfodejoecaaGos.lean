/- goings. -/
import Derived.Test.YthpbgfodejoecaaGngJ
namespace Go.Proofs.Ythpbgfodejoecaa
open Go.RowKit

set_option maxHeartbeats 2000000 in
theorem goings_any (a ga : Option Addr) (n c G gc : Nat) (T : Nat → St3) (L : Nat → Nat) (Z : Nat → Nat → Int) (w : World) (hn : n ≤ 600) (h : Sts w a n T) (hg : Gc w ga G L Z) (hL : ∀ r, r < G → L r ≤ 600) (hA : ∀ i, i < n → 0 ≤ (T i).2.2 ∧ (T i).2.2 < G) :
    Calls Try.prog 24 #[.slice a n c, .slice ga G gc] w fun e w' => e = .returned (.slice (some ⟨w.heap.size, 0, none⟩) n n) ∧ Below w.heap.size w w' ∧ Lie w.heap.size noB (fun z => Gc z (some ⟨w.heap.size, 0, none⟩) n (fun i => L (T i).2.2.toNat) (fun i => Z (T i).2.2.toNat)) w' := by
  have hmk := run_make_row' (P := Try.prog) 27 26 (.slice none 0 0) 24 Try.underlying27 Try.info26 rfl .i64 .i64 n (by omega) (by omega)
  obtain ⟨b, o, ha, hc⟩ := h
  obtain ⟨b', o', ha', hc'⟩ := hg
  have HC := hid hc
  have HC' := hid hc'
  have HL := hid hL
  have HA := hid hA
  clear hc hc' hL hA
  go_enter Try.func24, Try.ntmps24
  go_wp2
  clear hmk
  go_loopw [13] (fun i wr => ∃ k : Nat, k ≤ n ∧ i = .int .i64 k ∧ Hid (∃ V, Gng w wr n k L Z T V)) (fun i _ => n - (intOf i).toNat)
  case atStart => exact ⟨0, Nat.zero_le _, rfl, hid ⟨_, box_below _ _, World.rowIs_made w _ n 26, fun j hj => absurd hj (Nat.not_lt_zero _)⟩⟩
  case round =>
    obtain ⟨k, hk, rfl, HS⟩ := hrel
    obtain ⟨V, hF⟩ := HS.out
    by_cases hlt : k < n
    · obtain rfl := ha (by omega)
      obtain ⟨q0, q1, q2⟩ := Sts.at HC.out hF.below hlt
      obtain ⟨W2, hW2, hb2, hs2, p0, p1, p2⟩ := box3 wr (T k)
      obtain ⟨t, ht⟩ : ∃ t : Nat, (T k).2.2 = t := ⟨((T k).2.2).toNat, by have := HA.out k hlt; omega⟩
      have htG : t < G := by have := HA.out k hlt; omega
      have htz : (t : Int) < G := by omega
      obtain ⟨x1, hx1⟩ : ∃ x, x = (T k).2.1 := ⟨_, rfl⟩
      obtain ⟨x0, hx0⟩ : ∃ x, x = (T k).1 := ⟨_, rfl⟩
      rw [ht] at q2 p2 hW2
      rw [← hx1] at q1 p1 hW2
      rw [← hx0] at q0 p0 hW2
      obtain rfl := ha' (by omega)
      obtain ⟨a1, c1, hck, hr1, hnil⟩ := HC'.out t htG
      have hbw2 : Below w.heap.size w W2 := hF.below.trans (hb2.mono hF.below.size)
      have hck := below_c hbw2 hck
      have HT : Hid ((T k).2.2.toNat = t) := hid (by rw [ht]; rfl)
      have C := hid (clone_any a1 (L t) c1 (Z t) W2 (by have := HL.out t htG; omega) (hr1.below hbw2) hnil)
      have HF := hid hF
      have HB2 := hid hb2
      have HS2 := hid hs2
      clear hx0 hx1 ht hr1 hnil hbw2 HS hF hb2 hs2
      go_wp2_with fail
      refine C.out.mono ?_
      rintro e w2 ⟨v, rfl, hown, hb3⟩
      have hn1 := HF.out.next (w2 := w2) (v := v) (HB2.out.trans (hb3.mono HB2.out.size)) (by rw [HT.out]; exact World.ownsRow.mono hown HB2.out.size)
      have HN := hid hn1
      obtain ⟨a3, c3, hv3, _⟩ := owns_rown (l := lst (L t) (Z t)) (by rw [lst_len]; exact hown)
      rw [lst_len] at hv3
      subst hv3
      have hr := (HF.out.top.of_block ((HB2.out.trans (hb3.mono HB2.out.size)).block _ HF.out.top.lt) : w2.rowIs w.heap.size 26 n V)
      have r0 := hr.cell hlt
      have f0 := hr.frozen k
      clear hn1 hr hown hb3 C
      go_wp2
      go_roundw
      case rel => exact ⟨k + 1, by omega, by go_num, hid ⟨_, HN.out⟩⟩
      case measure => simp [intOf]; omega
    · obtain rfl : n = k := by omega
      go_wp2
      go_ret
      exact ⟨rfl, hF.below, hF.ly⟩

end Go.Proofs.Ythpbgfodejoecaa
