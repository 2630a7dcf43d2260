/- stepsTo: the steps of a shortest way. -/
import Derived.Test.YtjenkhphngiphaaSndStill
import Derived.Test.YtjenkhphngiphaaSndDead
namespace Go.Proofs.Ytjenkhphngiphaa
open Go.RowKit

/-- The steps along a way: the first edge from each to the next one. -/
def stpL (L : Nat → Nat) (S Z : Nat → Nat → Int) (wy : Nat → Int) (k : Nat) : List Int := lst k (fun i => lsE (S (wy i).toNat) (Z (wy i).toNat) (wy (i + 1)) (L (wy i).toNat))
theorem stpL_len (L : Nat → Nat) (S Z : Nat → Nat → Int) (wy : Nat → Int) (k : Nat) : (stpL L S Z wy k).length = k := lst_len _ _

def tgB (m x : Nat) : Bool := decide (x = m)
theorem tgB_mark (m x : Nat) : mark (fun _ => false) m x = tgB m x := by
  unfold mark tgB
  by_cases e : x = m
  · rw [if_pos e, decide_eq_true e]
  · rw [if_neg e, decide_eq_false e]

/-- The nodes of the way. -/
def wyN (G : Nat) (L : Nat → Nat) (Z : Nat → Nat → Int) (m len : Nat) : Nat → Int := nd L Z 1 (fun _ => 0) (byLev G L Z (tgB m) len)

/-- The steps that lead there. -/
def ToIs (G : Nat) (L : Nat → Nat) (S Z : Nat → Nat → Int) (mk : Int) (l : List Int) : Prop :=
  (mk = -1 ∧ l = []) ∨ (∃ (m : Nat) (F : Nat → Int) (len : Nat), mk = m ∧ m < G ∧ Near G L Z (tgB m) 1 (fun _ => 0) F len ∧ l = stpL L S Z (wyN G L Z m len) len)

theorem ToIs.uniq {G : Nat} {L : Nat → Nat} {S Z : Nat → Nat → Int} {mk : Int} {l l' : List Int} (h : ToIs G L S Z mk l) (h' : ToIs G L S Z mk l') : l = l' := by
  rcases h with ⟨h1, h2⟩ | ⟨m, F, len, h1, h2, h3, h4⟩
  · rcases h' with ⟨g1, g2⟩ | ⟨m', F', len', g1, g2, g3, g4⟩
    · rw [h2, g2]
    · omega
  · rcases h' with ⟨g1, g2⟩ | ⟨m', F', len', g1, g2, g3, g4⟩
    · omega
    · have : m = m' := by omega
      subst this
      have := h3.same g3
      subst this
      rw [h4, g4]

theorem ToIs.len {G : Nat} {L : Nat → Nat} {S Z : Nat → Nat → Int} {mk : Int} {l : List Int} (h : ToIs G L S Z mk l) : l.length ≤ G := by
  rcases h with ⟨h1, rfl⟩ | ⟨m, F, len, h1, h2, h3, rfl⟩
  · exact Nat.zero_le _
  · rw [stpL_len]
    have := h3.lenG
    omega

/-- What a shortest way to m is in memory. -/
theorem way_there {G : Nat} {L : Nat → Nat} {Z : Nat → Nat → Int} {m : Nat} {w w' : World} {v : Value} {is : Bool} (hm : m < G) (hc : Comes G L Z 1 (fun _ => (0 : Int)) m) (h : WayIs G L Z (tgB m) 1 (fun _ => 0) w w' v is) :
    ∃ (a : Option Addr) (c len : Nat) (F : Nat → Int), is = true ∧ v = .slice a (len + 1) c ∧ Near G L Z (tgB m) 1 (fun _ => 0) F len ∧ Row w' a (len + 1) (wyN G L Z m len) := by
  obtain ⟨a, k, c, R, rfl, hr, h1 | h1⟩ := h.row
  · exact absurd hc (h1.2.2 m hm (by unfold tgB; rw [decide_eq_true rfl]))
  · obtain ⟨h2, F, len, h3, rfl, h4⟩ := h1
    exact ⟨a, c, len, F, h2, rfl, h3, hr.congr h4⟩

theorem way_node {G : Nat} {L : Nat → Nat} {Z : Nat → Nat → Int} {m len : Nat} {F : Nat → Int} (h : Near G L Z (tgB m) 1 (fun _ => 0) F len) {d : Nat} (hd : d ≤ len) : ∃ x : Nat, wyN G L Z m len d = (x : Int) ∧ x < G := by
  obtain ⟨_, x, h1, h2, _⟩ := h.nodes d hd
  exact ⟨x, h1, h2⟩

set_option maxHeartbeats 2000000 in
theorem stepsTo_any {ma xa ga : Option Addr} {ml mc G xc gc : Nat} {L : Nat → Nat} {S Z : Nat → Nat → Int} {w : World} (mk : Int) (hmk0 : mk = -1 ∨ (0 ≤ mk ∧ mk < G)) (hG : G ≤ 1000) (hx : Egs w xa G L S Z) (hg : Gr w ga G L Z) (hL : ∀ r, r < G → L r ≤ 1000) (he : errG G L Z = 0)
    (hall : ∀ m, m < G → Comes G L Z 1 (fun _ => (0 : Int)) m) :
    Calls Try.prog 25 #[.agg #[.slice ma ml mc, .slice xa G xc], .slice ga G gc, .int .i64 mk] w fun e w' => (∃ (a : Option Addr) (c : Nat) (l : List Int), e = .returned (.slice a l.length c) ∧ ToIs G L S Z mk l ∧ w'.ownsRow w.heap.size 3 1 (.slice a l.length c) l.length (vals l)) ∧ Below w.heap.size w w' := by
  obtain ⟨W, eW⟩ : ∃ x, x = w.alloc (.cells #[.slice ma ml mc, .slice xa G xc] 35) := ⟨_, rfl⟩
  have HW : Hid (Below w.heap.size w W ∧ W.heap.size = w.heap.size + 1) := by subst eW; exact ⟨box_below _ _, by simp⟩
  have HEW : Hid (w.alloc (.cells #[.slice ma ml mc, .slice xa G xc] 35) = W) := eW.symm
  have HBx : Hid (∀ u, Below W.heap.size W u → u.cell? ⟨w.heap.size, 1, none⟩ = some (.slice xa G xc)) := fun u hu => by
    subst eW
    exact new_alloc hu rfl
  by_cases hz : mk = -1
  · subst hz
    clear eW hx hg hL he hall hmk0
    go_enter Try.func25, Try.ntmps25
    go_wp2
    rw [HEW.out]
    go_ret
    exact ⟨⟨none, 0, [], rfl, Or.inl ⟨rfl, rfl⟩, World.ownsRow_nil _ _ _ _⟩, HW.out.1⟩
  · obtain ⟨m, rfl⟩ : ∃ m : Nat, mk = m := ⟨mk.toNat, by omega⟩
    have hmG : m < G := by omega
    have hmz : (m : Int) < G := by omega
    have hz' : ((m : Int) == -1) = false := by rw [beq_eq_false_iff_ne]; exact hz
    obtain ⟨i0, hi, hz0, hz1, hz2⟩ := info_parts Try.info3
    have HI : Hid (Try.prog.info? 3 = some i0 ∧ i0.zero = some (.int .i64 0) ∧ i0.size = 1 ∧ i0.bytes = 8) := ⟨hi, hz0, hz1, hz2⟩
    have hmk := run_make_row' (P := Try.prog) 59 4 (.bool false) 1 Try.underlying59 Try.info4 rfl .i64 .i64 G (by omega) (by omega)
    have hC0 : Cw W (W.alloc (.cells (madeCells #[.bool false] G) 4)) G (fun _ => false) := ⟨(Below.refl _ _).alloc (Nat.le_refl _) _, World.rowIs_made W (.bool false) G 4⟩
    obtain ⟨U1, eU1⟩ : ∃ x, x = W.alloc (.cells ((madeCells #[.bool false] G).setIfInBounds m (.bool true)) 4) := ⟨_, rfl⟩
    have hC1 : Cw W U1 G (tgB m) := by
      have := hC0.mark m
      rw [World.setCell_alloc_at _ _ _ _ _ rfl] at this
      rw [eU1]
      exact this.congr (fun x _ => tgB_mark m x)
    have hsz1 : U1.heap.size = w.heap.size + 1 + 1 := by subst eU1; simp [HW.out.2]
    obtain ⟨U, eU⟩ : ∃ x, x = U1.alloc (.cells #[.int .i64 0] 3) := ⟨_, rfl⟩
    have hCU : Cw W U G (tgB m) := by subst eU; exact hC1.alloc _
    have HCU : Hid (Cw W U G (tgB m)) := hCU
    have HBU : Hid (Below w.heap.size w U) := HW.out.1.trans (hCU.below.mono HW.out.1.size)
    have HEU : Hid (((w.alloc (.cells #[.slice ma ml mc, .slice xa G xc] 35)).alloc (.cells ((madeCells #[.bool false] G).setIfInBounds m (.bool true)) 4)).alloc (.cells #[.int .i64 0] 3) = U) := by
      show _ = _
      rw [eU, eU1, eW]
    have hct := hC0.row.cell hmG
    have hcz := hC0.row.frozen m
    rw [HW.out.2] at hct hcz
    have C1 : Hid (Calls Try.prog 49 #[.slice ga G gc, .slice (some ⟨w.heap.size + 1 + 1, 0, none⟩) 1 1, .slice (some ⟨w.heap.size + 1, 0, none⟩) G G] U fun e w' => ∃ (a : Option Addr) (c len : Nat) (F : Nat → Int), e = .returned (.tuple #[.slice a (len + 1) c, .bool true, .int .i64 0]) ∧ Below U.heap.size U w' ∧ Near G L Z (tgB m) 1 (fun _ => 0) F len ∧ Row w' a (len + 1) (wyN G L Z m len)) := by
      have hrow : Row U (some ⟨w.heap.size + 1 + 1, 0, none⟩) 1 (fun _ => (0 : Int)) := by
        rw [← hsz1]
        subst eU
        exact one_row U1 0
      have hrb : Rowb U (some ⟨w.heap.size + 1, 0, none⟩) G (tgB m) := by
        rw [← HW.out.2]
        exact rowb_of_rowIs hCU.row
      refine (way_ok ga G gc L Z _ 1 1 (fun _ => 0) _ G (tgB m) U (fun r hr => by have := hL r hr; omega) (by omega) (hg.below HBU.out) hrow hrb (errF_one (x := 0) he (by omega))).mono ?_
      rintro e w' ⟨v, is, rfl, hb, hw⟩
      obtain ⟨a, c, len, F, rfl, rfl, h3, h4⟩ := way_there hmG (hall m hmG) hw
      exact ⟨a, c, len, F, rfl, hb, h3, h4⟩
    have HX : Hid (Egs w xa G L S Z) := hx
    have HL : Hid (∀ r, r < G → L r ≤ 1000) := hL
    rw [eW] at hct hcz
    clear eW hx hg hL he hall hmk0 hz eU1 eU hC0 hC1 hCU hi hz0 hz1 hz2 hsz1
    go_enter Try.func25, Try.ntmps25
    go_wp2_with fail
    rw [HEU.out]
    refine C1.out.mono ?_
    rintro e w3 ⟨ya, yc, len, D, rfl, hb3, hN, hrow⟩
    have HN : Hid (Near G L Z (tgB m) 1 (fun _ => 0) D len) := hN
    have HY : Hid (Row w3 ya (len + 1) (wyN G L Z m len)) := hrow
    have HB3 : Hid (Below w.heap.size w w3 ∧ Below W.heap.size W w3) := ⟨HBU.out.trans (hb3.mono HBU.out.size), HCU.out.below.trans (hb3.mono HCU.out.below.size)⟩
    have hlG := hN.lenG
    obtain ⟨yb, yo, hya, hyc⟩ := HY.out
    obtain rfl := hya (by omega)
    have HYC : Hid (∀ i, i < len + 1 → w3.cell? ⟨yb, yo + i, none⟩ = some (.int .i64 (wyN G L Z m len i))) := hyc
    clear hb3 hN hrow hyc hya C1 hct hcz hmk HCU
    go_wp2
    go_loopw [11, 12] (fun v i wr => ∃ (k : Nat) (va : Option Addr) (vc : Nat), k ≤ len ∧ i = .int .i64 ((k : Int) + 1) ∧ v = .slice va k vc ∧ Hid (Below w3.heap.size w3 wr ∧ wr.ownsRow w3.heap.size 3 1 (.slice va k vc) k (vals (stpL L S Z (wyN G L Z m len) k)))) (fun _ i _ => len + 1 - (intOf i).toNat)
    case atStart => exact ⟨0, none, 0, Nat.zero_le _, rfl, rfl, hid ⟨Below.refl _ _, World.ownsRow_nil _ _ _ _⟩⟩
    case round =>
      obtain ⟨k, va, vc, hk, rfl, rfl, HV⟩ := hrel
      have HBw : Hid (Below w.heap.size w wr) := HB3.out.1.trans (HV.out.1.mono HB3.out.1.size)
      by_cases hlk : k < len
      · obtain ⟨x, hx, hxG⟩ := way_node HN.out (d := k) (by omega)
        obtain ⟨y, hy, hyG⟩ := way_node HN.out (d := k + 1) (by omega)
        have hxz : (x : Int) < G := by omega
        have hkz : (k : Int) + 1 < (len : Int) + 1 := by omega
        have hkz2 : (k : Int) < (len : Int) + 1 := by omega
        have hkz3 : (0 : Int) ≤ (k : Int) + 1 := by omega
        have hy0 : wr.cell? ⟨yb, yo + k, none⟩ = some (.int .i64 x) := by
          have hq := HYC.out k (by omega)
          rw [hx] at hq
          rw [HV.out.1.cell (p := ⟨yb, yo + k, none⟩) (World.block_lt_of_cell? _ _ hq)]
          exact hq
        have hy1 : wr.cell? ⟨yb, yo + (k + 1), none⟩ = some (.int .i64 y) := by
          have hq := HYC.out (k + 1) (by omega)
          rw [hy] at hq
          rw [HV.out.1.cell (p := ⟨yb, yo + (k + 1), none⟩) (World.block_lt_of_cell? _ _ hq)]
          exact hq
        have hb0 : wr.cell? ⟨w.heap.size, 1, none⟩ = some (.slice xa G xc) := HBx.out wr (HB3.out.2.trans (HV.out.1.mono HB3.out.2.size))
        obtain ⟨b, o, ha, hc⟩ := HX.out.below HBw.out
        obtain rfl := ha (by omega)
        obtain ⟨ea, ec, hck, hfl⟩ := hc x hxG
        have HFl : Hid (Fls wr ea (L x) (S x) (Z x)) := hfl
        have hLx := HL.out x hxG
        have CL : Hid (∀ u, Below wr.heap.size wr u → Calls Try.prog 50 #[.slice ea (L x) ec, .int .i64 y] u fun e w' => e = .returned (.int .i64 (lsE (S x) (Z x) y (L x))) ∧ Below u.heap.size u w') := fun u hu => leastStep_any _ hLx (HFl.out.below hu)
        have HQ : Hid (stpL L S Z (wyN G L Z m len) k ++ [lsE (S x) (Z x) y (L x)] = stpL L S Z (wyN G L Z m len) (k + 1)) := by
          show _ = _
          unfold stpL
          rw [lst_add, hx, hy, Int.toNat_natCast]
        generalize lsE (S x) (Z x) y (L x) = q at *
        generalize L x = lx at *
        have HSz : Hid (w3.heap.size ≤ wr.heap.size) := HV.out.1.size
        have hwrap : IntKind.i64.wrap (k : Int) = (k : Int) := by rw [IntKind.wrap_i64]; omega
        clear hx hy ha hc hfl HYC HX
        go_wp2
        go_region_law
          (first
            | (go_simp; go_at_call 50; refine (CL.out _ ?_).mono ?_; (exact below_drew_iff.2 (Below.refl _ _)); rintro e w5 ⟨rfl, hb5⟩; have hb5' : Below wr.heap.size wr w5 := (below_drew_iff.2 (Below.refl _ _)).trans hb5; have HO5 : w5.ownsRow w3.heap.size 3 1 (.slice va k vc) k (vals (stpL L S Z (wyN G L Z m len) k)) := below_ownsRow HV.out.2 hb5'; have HB5 : Below w3.heap.size w3 w5 := HV.out.1.trans (hb5'.mono HV.out.1.size); dsimp only)
            | (refine step_append_lies _ (by rfl) _ _ _ (by rfl) w3.heap.size 3 i0 _ 1 8 Try.underlying26 HI.out.1 HI.out.2.1 HI.out.2.2.1 HI.out.2.2.2 rfl (by omega) (.slice va k vc) k (vals (stpL L S Z (wyN G L Z m len) k)) (by rfl) (HO5.alloc _)
                ⟨w5.heap.size, 0, none⟩ 1 1 [.int .i64 q] (by rfl) (by rfl) (cell_one_new _ _ _) (ints_oneCell .i64 [q]) (by omega) (by unfold maxLen; omega) (by omega) (by have := hb5'.size; have := HSz.out; simp; omega) (w5.heap.size + 1) (by simp) ?_; intro gg cap w6 hown hgrow _ _; obtain ⟨_, H6⟩ := leastWay_step HB5 HO5 hown hgrow))
        all_goals
          clear hown hgrow
          go_wp2
          go_roundw
          case rel => exact ⟨k + 1, _, _, by omega, by go_num, rfl, hid ⟨H6.out.1, by rw [← HQ.out]; exact H6.out.2⟩⟩
          case measure => simp [intOf]; omega
      · obtain rfl : k = len := by omega
        have hkz : ¬ ((k : Int) + 1 < (k : Int) + 1) := by omega
        have HFin : Hid (wr.ownsRow w.heap.size 3 1 (.slice va (stpL L S Z (wyN G L Z m k) k).length vc) (stpL L S Z (wyN G L Z m k) k).length (vals (stpL L S Z (wyN G L Z m k) k))) := by
          have := owns_base HV.out.2 HB3.out.1.size
          rw [stpL_len]
          exact this
        go_wp2
        go_ret
        exact ⟨⟨va, vc, _, by rw [stpL_len]; rfl, Or.inr ⟨m, D, k, rfl, hmG, HN.out, rfl⟩, HFin.out⟩, HBw.out⟩

end Go.Proofs.Ytjenkhphngiphaa
