/- The steps of a shortest way, as the document's Found has them. -/
import Derived.Test.YtjenkhphngiphaaSndStillJ
import Derived.Test.YtjenkhphngiphaaRefWay
namespace Go.Proofs.Ytjenkhphngiphaa
open Go.RowKit

/-- Each node of the way has an edge to the next one. -/
theorem way_edge {G : Nat} {L : Nat → Nat} {Z : Nat → Nat → Int} {m len : Nat} {d x y : Nat} (hx : wyN G L Z m len d = x) (hy : wyN G L Z m len (d + 1) = y) : ∃ i, i < L x ∧ Z x i = y := by
  have e : wyN G L Z m len (d + 1) = best (byLev G L Z (tgB m) len (d + 1)) (Z (wyN G L Z m len d).toNat) (L (wyN G L Z m len d).toNat) := rfl
  rw [hx, hy, Int.toNat_natCast] at e
  obtain ⟨i, h1, h2, _⟩ := best_some (p := byLev G L Z (tgB m) len (d + 1)) (Y := Z x) (L x) (by rw [← e]; omega)
  exact ⟨i, h1, by rw [← h2, ← e]⟩

theorem fzE_ex {Z : Nat → Int} {t : Int} {n i : Nat} (hi : i < n) (h : Z i = t) : ∃ k, k < n ∧ Z k = t ∧ ∀ j, j < k → Z j ≠ t := by
  induction i using Nat.strongRecOn with
  | ind i ih =>
    by_cases e : ∃ j, j < i ∧ Z j = t
    · obtain ⟨j, h1, h2⟩ := e
      exact ih j h1 (by omega) h2
    · exact ⟨i, hi, h, fun j hj hz => e ⟨j, hj, hz⟩⟩

theorem lead_step {w wr w1 : World} {v v' : Value} {k : Nat} {l : List Int} {x : Int} {o : Obj} (hb : Below w.heap.size w wr) (ho : wr.ownsRow w.heap.size 3 1 v k (vals l)) (hown : w1.ownsRow w.heap.size 3 1 v' (k + 1) (vals l ++ [.int .i64 x])) (hg : (wr.alloc o).drew.grownBy w1 v.ownBlock) :
    (∃ a c, v' = .slice a (k + 1) c) ∧ Hid (Below w.heap.size w w1 ∧ w1.ownsRow w.heap.size 3 1 v' (k + 1) (vals (l ++ [x]))) :=
  leastWay_step hb ho hown (o := o) ⟨hg.os, hg.tape, hg.output, hg.size, hg.block⟩

set_option maxHeartbeats 2000000 in
theorem lead_any {xa ga : Option Addr} {G xc gc nb gx sb : Nat} {L : Nat → Nat} {S Z : Nat → Nat → Int} {w : World} {mk : Int} {l : List Int} (hG : G ≤ 1000) (hnb : w.cell? ⟨nb, 0, none⟩ = some (.int .i64 G)) (hgx : w.cell? ⟨gx, 0, none⟩ = some (.slice ga G gc)) (hsb : w.cell? ⟨sb, 1, none⟩ = some (.slice xa G xc))
    (hx : Egs w xa G L S Z) (hg : Gr w ga G L Z) (hL : ∀ r, r < G → L r ≤ 1000) (he : errG G L Z = 0) (hto : ToIs G L S Z mk l) :
    Calls Try.prog 32 #[.int .i64 mk, .pointer (some ⟨nb, 0, none⟩), .pointer (some ⟨gx, 0, none⟩), .pointer (some ⟨sb, 0, none⟩)] w fun e w' => (∃ (a : Option Addr) (c : Nat), e = .returned (.slice a l.length c) ∧ w'.ownsRow w.heap.size 3 1 (.slice a l.length c) l.length (vals l)) ∧ Below w.heap.size w w' := by
  rcases hto with ⟨rfl, rfl⟩ | ⟨m, D, len, rfl, hmG, hN, rfl⟩
  · clear hx hg hL he hnb hgx hsb
    go_enter Try.func32, Try.ntmps32
    go_wp2
    go_ret
    exact ⟨⟨none, 0, rfl, World.ownsRow_nil _ _ _ _⟩, Below.refl _ _⟩
  · have hmz : (m : Int) < G := by omega
    have hm0 : ¬ (m : Int) < 0 := by omega
    obtain ⟨i0, hi, hz0, hz1, hz2⟩ := info_parts Try.info3
    have HI : Hid (Try.prog.info? 3 = some i0 ∧ i0.zero = some (.int .i64 0) ∧ i0.size = 1 ∧ i0.bytes = 8) := ⟨hi, hz0, hz1, hz2⟩
    have hmk := run_make_row' (P := Try.prog) 59 4 (.bool false) 1 Try.underlying59 Try.info4 rfl .i64 .i64 G (by omega) (by omega)
    have hC0 : Cw w (w.alloc (.cells (madeCells #[.bool false] G) 4)) G (fun _ => false) := ⟨(Below.refl _ _).alloc (Nat.le_refl _) _, World.rowIs_made w (.bool false) G 4⟩
    obtain ⟨U1, eU1⟩ : ∃ x, x = w.alloc (.cells ((madeCells #[.bool false] G).setIfInBounds m (.bool true)) 4) := ⟨_, rfl⟩
    have hC1 : Cw w U1 G (tgB m) := by
      have := hC0.mark m
      rw [World.setCell_alloc_at _ _ _ _ _ rfl] at this
      rw [eU1]
      exact this.congr (fun x _ => tgB_mark m x)
    have hsz1 : U1.heap.size = w.heap.size + 1 := by subst eU1; simp
    obtain ⟨U, eU⟩ : ∃ x, x = U1.alloc (.cells #[.int .i64 0] 3) := ⟨_, rfl⟩
    have hCU : Cw w U G (tgB m) := by subst eU; exact hC1.alloc _
    have HBU : Hid (Below w.heap.size w U) := hCU.below
    have HEU : Hid ((w.alloc (.cells ((madeCells #[.bool false] G).setIfInBounds m (.bool true)) 4)).alloc (.cells #[.int .i64 0] 3) = U) := by
      show _ = _
      rw [eU, eU1]
    have hct := hC0.row.cell hmG
    have hcz := hC0.row.frozen m
    have hlt1 : nb < w.heap.size := World.block_lt_of_cell? _ _ hnb
    have hlt2 : gx < w.heap.size := World.block_lt_of_cell? _ _ hgx
    have hlt3 : sb < w.heap.size := World.block_lt_of_cell? _ _ hsb
    have HN : Hid (Near G L Z (tgB m) 1 (fun _ => 0) D len) := hN
    have HSb : Hid (w.cell? ⟨sb, 1, none⟩ = some (.slice xa G xc)) := hsb
    have C1 : Hid (Calls Try.prog 33 #[.slice ga G gc, .slice (some ⟨w.heap.size + 1, 0, none⟩) 1 1, .slice (some ⟨w.heap.size, 0, none⟩) G G] U fun e w' => ∃ (a : Option Addr) (c : Nat), e = .returned (.tuple #[.slice a (len + 1) c, .bool true]) ∧ Below U.heap.size U w' ∧ Row w' a (len + 1) (wyN G L Z m len)) := by
      have hrow : Row U (some ⟨w.heap.size + 1, 0, none⟩) 1 (fun _ => (0 : Int)) := by
        rw [← hsz1]
        subst eU
        exact one_row U1 0
      have hrb : Rowb U (some ⟨w.heap.size, 0, none⟩) G (tgB m) := rowb_of_rowIs hCU.row
      refine (refWay_any ga G gc L Z _ 1 1 (fun _ => 0) _ G (tgB m) U (fun r hr => by have := hL r hr; omega) (by omega) (hg.below HBU.out) hrow hrb (errF_one (x := 0) he (by omega)) (Or.inr ⟨D, len, hN⟩)).mono ?_
      rintro e w' ⟨v, is, rfl, hb, hw⟩
      have hcm : Comes G L Z 1 (fun _ => (0 : Int)) m := by
        obtain ⟨t, ht, hT, hc⟩ := hN.comes
        unfold tgB at hT
        rw [decide_eq_true_eq] at hT
        subst hT
        exact hc
      obtain ⟨a, c, len', F, rfl, rfl, h3, h4⟩ := way_there hmG hcm hw
      have := h3.same hN
      subst this
      exact ⟨a, c, rfl, hb, h4⟩
    have HX : Hid (Egs w xa G L S Z) := hx
    have HL : Hid (∀ r, r < G → L r ≤ 1000) := hL
    have hlG := hN.lenG
    clear hx hg hL he eU1 eU hC0 hC1 hCU hi hz0 hz1 hz2 hsz1 hN
    go_enter Try.func32, Try.ntmps32
    go_wp2_with fail
    rw [HEU.out]
    refine C1.out.mono ?_
    rintro e w3 ⟨ya, yc, rfl, hb3, hrow⟩
    have HY : Hid (Row w3 ya (len + 1) (wyN G L Z m len)) := hrow
    have HB3 : Hid (Below w.heap.size w w3) := HBU.out.trans (hb3.mono HBU.out.size)
    obtain ⟨yb, yo, hya, hyc⟩ := HY.out
    obtain rfl := hya (by omega)
    have HYC : Hid (∀ i, i < len + 1 → w3.cell? ⟨yb, yo + i, none⟩ = some (.int .i64 (wyN G L Z m len i))) := hyc
    clear hb3 hrow hyc hya C1 hct hcz hmk hnb hgx hsb
    go_wp2
    go_loopw [9, 10] (fun v i wr => ∃ (k : Nat) (va : Option Addr) (vc : Nat), k ≤ len ∧ i = .int .i64 ((k : Int) + 1) ∧ v = .slice va k vc ∧ Hid (Below w3.heap.size w3 wr ∧ wr.ownsRow w3.heap.size 3 1 (.slice va k vc) k (vals (stpL L S Z (wyN G L Z m len) k)))) (fun _ i _ => len + 1 - (intOf i).toNat)
    case atStart => exact ⟨0, none, 0, Nat.zero_le _, rfl, rfl, hid ⟨Below.refl _ _, World.ownsRow_nil _ _ _ _⟩⟩
    case round =>
      obtain ⟨k, va, vc, hk, rfl, rfl, HV⟩ := hrel
      have HBw : Hid (Below w.heap.size w wr) := HB3.out.trans (HV.out.1.mono HB3.out.size)
      by_cases hlk : k < len
      · obtain ⟨x, hx, hxG⟩ := way_node HN.out (d := k) (by omega)
        obtain ⟨y, hy, hyG⟩ := way_node HN.out (d := k + 1) (by omega)
        obtain ⟨i, hiL, hiZ⟩ := way_edge (d := k) hx hy
        obtain ⟨k0, hk0, hz0, hj0⟩ := fzE_ex hiL hiZ
        have hxz : (x : Int) < G := by omega
        have hkz : (k : Int) + 1 < (len : Int) + 1 := by omega
        have hkz2 : (k : Int) < (len : Int) + 1 := by omega
        have hkz3 : (0 : Int) ≤ (k : Int) + 1 := by omega
        have hy0 : wr.cell? ⟨yb, yo + k, none⟩ = some (.int .i64 x) := by
          have hq := HYC.out k (by omega)
          rw [hx] at hq
          rw [HV.out.1.cell (p := ⟨yb, yo + k, none⟩) (World.block_lt_of_cell? _ _ hq)]
          exact hq
        have hy1 : wr.cell? ⟨yb, yo + (k + 1), none⟩ = some (.int .i64 y) := by
          have hq := HYC.out (k + 1) (by omega)
          rw [hy] at hq
          rw [HV.out.1.cell (p := ⟨yb, yo + (k + 1), none⟩) (World.block_lt_of_cell? _ _ hq)]
          exact hq
        have hb0 : wr.cell? ⟨sb, 1, none⟩ = some (.slice xa G xc) := by rw [HBw.out.cell (p := ⟨sb, 1, none⟩) hlt3]; exact HSb.out
        obtain ⟨b, o, ha, hc⟩ := HX.out.below HBw.out
        obtain rfl := ha (by omega)
        obtain ⟨ea, ec, hck, hfl⟩ := hc x hxG
        have hLx := HL.out x hxG
        obtain ⟨eb, eo, hea, hec⟩ := hfl
        obtain rfl := hea (by omega)
        have HEC : Hid (∀ i, i < L x → wr.cell? ⟨eb, eo + i * 2, none⟩ = some (.int .i64 (S x i)) ∧ wr.cell? ⟨eb, eo + i * 2 + 1, none⟩ = some (.int .i64 (Z x i))) := hec
        have HQ : Hid (stpL L S Z (wyN G L Z m len) k ++ [S x k0] = stpL L S Z (wyN G L Z m len) (k + 1)) := by
          show _ = _
          unfold stpL
          rw [lst_add, hx, hy, Int.toNat_natCast, lsE_hit hk0 hz0 hj0]
        have HJ0 : Hid (Z x k0 = y ∧ ∀ j, j < k0 → Z x j ≠ y) := ⟨hz0, hj0⟩
        have HSz : Hid (w3.heap.size ≤ wr.heap.size) := HV.out.1.size
        have hwrap : IntKind.i64.wrap (k : Int) = (k : Int) := by rw [IntKind.wrap_i64]; omega
        obtain ⟨wo, eo'⟩ : ∃ x, x = wr := ⟨_, rfl⟩
        subst eo'
        clear hx hy ha hc hec hea HYC HX hiL hiZ hz0 hj0
        generalize hlx : L x = lx at *
        have HLx : Hid (L x = lx) := hlx
        clear hlx
        go_wp2
        go_loopw [11] (fun i wr => ∃ j : Nat, j ≤ k0 ∧ i = .int .i64 j ∧ ∃ q, wr = wo.drewN q) (fun i _ => k0 - (intOf i).toNat)
        case atStart => exact ⟨0, Nat.zero_le _, rfl, 0, rfl⟩
        case round =>
          obtain ⟨j, hj, rfl, q, rfl⟩ := hrel
          have hjz : (j : Int) < lx := by omega
          have hj0 : (0 : Int) ≤ (j : Int) := by omega
          obtain ⟨h1, h2⟩ := HEC.out j (by omega)
          by_cases hjk : j = k0
          · subst hjk
            rw [HJ0.out.1] at h2
            generalize S x j = s at *
            clear HEC
            go_wp2
            go_quiet (fail)
            go_wp2
            have hbq : Below wo.heap.size wo ((wo.drewN q).drewN nq) := below_drewN (below_drewN (Below.refl _ _) q) nq
            generalize (wo.drewN q).drewN nq = wq at *
            have HBq : Hid (Below w3.heap.size w3 wq) := HV.out.1.trans (hbq.mono HV.out.1.size)
            have HOq : Hid (wq.ownsRow w3.heap.size 3 1 (.slice va k vc) k (vals (stpL L S Z (wyN G L Z m len) k))) := below_ownsRow HV.out.2 hbq
            have q0 : wq.cell? ⟨yb, yo + k, none⟩ = some (.int .i64 x) := (hbq.cell (p := ⟨yb, yo + k, none⟩) (World.block_lt_of_cell? _ _ hy0)).trans hy0
            have q1 : wq.cell? ⟨sb, 1, none⟩ = some (.slice (some ⟨b, o, none⟩) G xc) := (hbq.cell (p := ⟨sb, 1, none⟩) (World.block_lt_of_cell? _ _ hb0)).trans hb0
            have q2 : wq.cell? ⟨b, o + x, none⟩ = some (.slice (some ⟨eb, eo, none⟩) lx ec) := (hbq.cell (p := ⟨b, o + x, none⟩) (World.block_lt_of_cell? _ _ hck)).trans hck
            have q3 : wq.cell? ⟨eb, eo + j * 2, none⟩ = some (.int .i64 s) := (hbq.cell (p := ⟨eb, eo + j * 2, none⟩) (World.block_lt_of_cell? _ _ h1)).trans h1
            have HSq : Hid (w3.heap.size ≤ wq.heap.size) := HBq.out.size
            clear hy0 hy1 hb0 hck h1 h2 hbq
            go_region_law
              ((refine step_append_lies _ (by rfl) _ _ _ (by rfl) w3.heap.size 3 i0 _ 1 8 Try.underlying26 HI.out.1 HI.out.2.1 HI.out.2.2.1 HI.out.2.2.2 rfl (by omega) (.slice va k vc) k (vals (stpL L S Z (wyN G L Z m len) k)) (by rfl) ((HOq.out.alloc _).drew)
                    ⟨wq.heap.size, 0, none⟩ 1 1 [.int .i64 s] (by rfl) (by rfl) (World.news_of_block (cs := #[.int .i64 s]) (t := 3) (fr := (0, 0)) (heap_alloc_new wq _)) (by simp [Value.oneCell']) (by omega) (by unfold maxLen; omega) (by omega) (by have := HSq.out; simp; omega) (wq.heap.size + 1) (by simp) ?_; intro gg cap w6 hown hgrow _ _; obtain ⟨_, H6⟩ := lead_step HBq.out HOq.out hown hgrow))
            all_goals
              clear hown hgrow
              go_wp2
              go_roundw
              case rel => exact ⟨k + 1, _, _, by omega, by go_num, rfl, hid ⟨H6.out.1, by rw [← HQ.out]; exact H6.out.2⟩⟩
              case measure => simp [intOf]; omega
          · have hne : (Z x j == (y : Int)) = false := by rw [beq_eq_false_iff_ne]; exact HJ0.out.2 j (by omega)
            have hne' : (Z x j != (y : Int)) = true := by rw [bne_iff_ne]; exact HJ0.out.2 j (by omega)
            generalize Z x j = z at *
            generalize S x j = s at *
            go_wp2
            go_quiet (fail)
            go_wp2
            go_roundw
            case rel => exact ⟨j + 1, by omega, by go_num, _, rfl⟩
            case measure => simp [intOf]; omega
      · obtain rfl : k = len := by omega
        have hkz : ¬ ((k : Int) + 1 < (k : Int) + 1) := by omega
        have HFin : Hid (wr.ownsRow w.heap.size 3 1 (.slice va (stpL L S Z (wyN G L Z m k) k).length vc) (stpL L S Z (wyN G L Z m k) k).length (vals (stpL L S Z (wyN G L Z m k) k))) := by
          have := owns_base HV.out.2 HB3.out.size
          rw [stpL_len]
          exact this
        go_wp2
        go_ret
        exact ⟨⟨va, vc, by rw [stpL_len]; rfl, HFin.out⟩, HBw.out⟩

end Go.Proofs.Ytjenkhphngiphaa
