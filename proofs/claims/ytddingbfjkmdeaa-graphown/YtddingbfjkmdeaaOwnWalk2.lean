/- The law GraphOwn, walked. -/
import Derived.Test.YtddingbfjkmdeaaOwnWalk
namespace Go.Proofs.Ytddingbfjkmdeaa
open Go.RowKit

/-- As Gr; and a list without memory is nil. -/
def GrN (w : World) (ga : Option Addr) (G : Nat) (L : Nat → Nat) (Z : Nat → Nat → Int) : Prop :=
  ∃ b o, (0 < G → ga = some ⟨b, o, none⟩) ∧ ∀ r, r < G → ∃ a c, w.cell? ⟨b, o + r, none⟩ = some (.slice a (L r) c) ∧ Row w a (L r) (Z r) ∧ (a = none → L r = 0 ∧ c = 0)

theorem GrN.gr {w : World} {ga : Option Addr} {G : Nat} {L : Nat → Nat} {Z : Nat → Nat → Int} (h : GrN w ga G L Z) : Gr w ga G L Z := by
  obtain ⟨b, o, ha, hc⟩ := h
  refine ⟨b, o, ha, fun r hr => ?_⟩
  obtain ⟨a, c, h1, h2, _⟩ := hc r hr
  exact ⟨a, c, h1, h2⟩

theorem one_slice (x : Option Addr) (n c : Nat) : ∀ u ∈ [Value.slice x n c], u.oneCell' = true := by
  intro u hu
  rw [List.mem_singleton] at hu
  subst hu
  rfl

set_option maxHeartbeats 4000000 in
theorem graphOwn_walk (ga : Option Addr) (G gc : Nat) (L : Nat → Nat) (Z : Nat → Nat → Int) (a : Option Addr) (n c : Nat) (Y : Nat → Int) (w : World) (hG : 24 * G ≤ 140737488351232) (hL : ∀ r, r < G → L r ≤ 17592186043904) (hn : n ≤ 17592186043904)
    (h : GrN w ga G L Z) (hrow : Row w a n Y) (hnil : a = none → n = 0 ∧ c = 0) :
    Calls Try.prog 5 #[.slice ga G gc, .slice a n c] w fun e w' => e = .returned (.bool true) ∧ Below w.heap.size w w' := by
  have C0 : Hid (Calls Try.prog 17 #[.slice (some ⟨w.heap.size + 1, 0, none⟩) 1 1] ((w.alloc (.cells #[.int .i64 0] 3)).alloc (.cells #[.slice (some ⟨w.heap.size, 0, none⟩) 1 1] 28)) fun e w' => ∃ x, e = .returned (.tuple #[.slice x 1 1, .int .i64 0]) ∧ Below w.heap.size w w') := by
    refine (turn_ok _ 1 1 _ _ _ (fun _ _ => by omega) (one_gr w) one_err).mono ?_
    rintro e w' ⟨rfl, V, hF⟩
    exact ⟨_, rfl, (((Below.refl _ w).alloc (Nat.le_refl _) _).alloc (by simp) _).trans (hF.below.mono (by simp; omega))⟩
  have HGN : Hid (GrN w ga G L Z) := h
  have HR : Hid (Row w a n Y) := hrow
  have HN : Hid (a = none → n = 0 ∧ c = 0) := hnil
  have HL : Hid (∀ r, r < G → L r ≤ 17592186043904) := hL
  have HL2 : Hid (∀ r, r < G → L r ≤ 140737488355328) := fun r hr => by have := hL r hr; omega
  clear h hrow hnil hL
  obtain ⟨i1, hi, hz0, hz1, hz2⟩ := info_parts Try.info28
  have HI : Hid (Try.prog.info? 28 = some i1 ∧ i1.zero = some (.slice none 0 0) ∧ i1.size = 1 ∧ i1.bytes = 24) := ⟨hi, hz0, hz1, hz2⟩
  clear hi hz0 hz1 hz2
  go_enter Try.func5, Try.ntmps5
  go_wp2_with fail
  refine C0.out.mono ?_
  rintro e wb ⟨x0, rfl, hB0⟩
  have HB0 : Hid (Below w.heap.size w wb) := hB0
  clear hB0 C0
  go_wp2
  go_loopw [7, 39] (fun v i wr => ∃ (k : Nat) (va : Option Addr) (vc : Nat), k ≤ G ∧ i = .int .i64 k ∧ v = .slice va k vc ∧ Hid (∃ VS, InS wb wr k (.slice va k vc) VS L Z)) (fun _ i _ => G - (intOf i).toNat)
  case atStart => exact ⟨0, none, 0, Nat.zero_le _, rfl, rfl, hid ⟨fun _ => .slice none 0 0, Below.refl _ _, World.ownsRow_nil _ _ _ _, fun r hr => absurd hr (Nat.not_lt_zero _)⟩⟩
  case round =>
    obtain ⟨k, va, vc, hk, rfl, rfl, hX⟩ := hrel
    obtain ⟨VS, hS⟩ := hX.out
    have HS : Hid (InS wb wr k (.slice va k vc) VS L Z) := hS
    have HS0 : Hid (w.heap.size ≤ wb.heap.size ∧ wb.heap.size ≤ wr.heap.size) := ⟨HB0.out.size, hS.below.size⟩
    have HBw : Hid (Below w.heap.size w wr) := HB0.out.trans (hS.below.mono HB0.out.size)
    clear hX hS
    by_cases hlt : k < G
    · obtain ⟨gb, go, hga, hgc⟩ := HGN.out
      obtain rfl := hga (by omega)
      obtain ⟨a1, c1, hc0, hr0, hn0⟩ := hgc k hlt
      have hcell : wr.cell? ⟨gb, go + k, none⟩ = some (.slice a1 (L k) c1) := by
        rw [HBw.out.cell (p := ⟨gb, go + k, none⟩) (World.block_lt_of_cell? _ _ hc0)]; exact hc0
      have C1 : Hid (Calls Try.prog 18 #[.slice a1 (L k) c1, .int .i64 77] wr fun e w' => ∃ v, e = .returned v ∧ Rm w' wr.heap.size v (L k) (Z k) ∧ Below wr.heap.size wr w') := roomy_any a1 (L k) c1 (Z k) wr (HL.out k hlt) (hr0.below HBw.out) hn0
      have hzk : (k : Int) < G := by omega
      clear hc0 hr0 hn0 hgc hga
      go_wp2_with fail
      refine C1.out.mono ?_
      rintro e w1 ⟨v1, rfl, hR1, hB1⟩
      have HR1 : Hid (Rm w1 wr.heap.size v1 (L k) (Z k)) := hR1
      have HB1 : Hid (Below wr.heap.size wr w1) := hB1
      obtain ⟨a2, c2, rfl, _⟩ := hR1.row
      have HO : Hid (w1.ownsRow wb.heap.size 28 1 (.slice va k vc) k ((List.range k).map VS)) := ownsRow_of_block HS.out.own (fun b _ hb => hB1.block b hb)
      have HS1 : Hid (wb.heap.size ≤ w1.heap.size) := Nat.le_trans HS0.out.2 hB1.size
      clear hR1 hB1 C1 hcell
      go_wp2_with (at_builtin; refine wpList_append_own_at _ rfl _ _ 40 rfl wb.heap.size 28 i1 (.slice none 0 0) 1 24 Try.underlying40 HI.out.1 HI.out.2.1 HI.out.2.2.1 HI.out.2.2.2 rfl (by decide) _ _ _ rfl (HO.out.alloc _) ⟨w1.heap.size, 0, none⟩ 1 1 [.slice a2 (L k) c2] rfl rfl (cell_one_new _ _ _) (one_slice _ _ _) (by unfold maxLen; omega) (by omega) (by have := HS1.out; simp; omega) ?_; intro v' w2 hown hgrow _ _; obtain ⟨⟨a3, c3, rfl⟩, H3⟩ := HS.out.step HR1.out HB1.out hown hgrow; clear hown hgrow)
      go_roundw
      case rel => exact ⟨k + 1, a3, c3, by omega, by go_num, rfl, hid ⟨_, H3.out⟩⟩
      case measure => simp [intOf]; omega
    · obtain rfl : G = k := by omega
      obtain ⟨va', vc', hv, hSp, hRA⟩ := HS.out.all
      cases hv
      have HSp : Hid (Spine wr va G VS) := hSp
      have HRA : Hid (RmAll wr wb.heap.size va G L Z) := hRA
      have HRows : Hid (∀ r, r < G → Spo wr wb.heap.size wr.heap.size (VS r)) := fun r hr => (HS.out.rows r hr).spo (Nat.le_refl _)
      have C2 : Hid (Calls Try.prog 18 #[.slice a n c, .int .i64 77] wr fun e w' => ∃ v, e = .returned v ∧ Rm w' wr.heap.size v n Y ∧ Below wr.heap.size wr w') := roomy_any a n c Y wr hn (HR.out.below HBw.out) HN.out
      clear hSp hRA HS
      go_wp2_with fail
      refine C2.out.mono ?_
      rintro e w2 ⟨vf, rfl, hRf, hB2⟩
      have HRf : Hid (Rm w2 wr.heap.size vf n Y) := hRf
      obtain ⟨af, cf, rfl, hrf⟩ := hRf.row
      have HRf2 : Hid (Row w2 af n Y) := hrf
      have HB2 : Hid (Below wr.heap.size wr w2) := hB2
      have HBw2 : Hid (Below w.heap.size w w2) := HBw.out.trans (hB2.mono HBw.out.size)
      have HRA2 : Hid (RmAll w2 wb.heap.size va G L Z) := HRA.out.below hB2
      clear hRf hrf hB2 C2 HRA
      by_cases h0 : errG G L Z = 0
      · have C3 : Hid (Calls Try.prog 17 #[.slice va G vc] w2 fun e w' => e = .returned (.tuple #[.slice (some ⟨w2.heap.size, 0, none⟩) G G, .int .i64 0]) ∧ ∃ V, Fam w2 w' G (tl L Z G) V) := turn_ok va G vc L Z w2 HL2.out HRA2.out.gr h0
        have H0 : Hid (errG G L Z = 0) := h0
        clear h0
        go_wp2_with fail
        refine C3.out.mono ?_
        rintro e w3 ⟨rfl, Vt, hF⟩
        have HF : Hid (Fam w2 w3 G (tl L Z G) Vt) := hF
        have HBw3 : Hid (Below w.heap.size w w3) := HBw2.out.trans (hF.below.mono HBw2.out.size)
        have HRA3 : Hid (RmAll w3 wb.heap.size va G L Z) := HRA2.out.below hF.below
        have HRf3 : Hid (Row w3 af n Y) := HRf2.out.below hF.below
        have HRm3 : Hid (Rm w3 wr.heap.size (.slice af n cf) n Y) := HRf.out.of_block hF.below.block
        clear hF C3
        by_cases hf : errF G L Z n Y = 0
        · have C4 : Hid (Calls Try.prog 19 #[.slice va G vc, .slice af n cf] w3 fun e w' => ∃ b, e = .returned (.tuple #[.slice (some ⟨b, 0, none⟩) G G, .int .i64 0]) ∧ Below w3.heap.size w3 w') := by
            refine (reach_ok va G vc L Z af n cf Y w3 HL2.out (by omega) HRA3.out.gr HRf3.out hf).mono ?_
            rintro e w' ⟨b, R, rfl, h1, _⟩
            exact ⟨b, rfl, h1⟩
          clear hf
          go_wp2_with fail
          refine C4.out.mono ?_
          rintro e w4 ⟨rb, rfl, hB4⟩
          have HB4 : Hid (Below w3.heap.size w3 w4) := hB4
          have HBw4 : Hid (Below w.heap.size w w4) := HBw3.out.trans (hB4.mono HBw3.out.size)
          have C5 : Hid (Calls Try.prog 20 #[.slice va G vc, .slice ga G gc] w4 fun e w' => e = .returned (.bool true) ∧ Below w4.heap.size w4 w') := by
            have := lists_any va ga G vc G gc L L Z Z w4 (by omega) HL2.out (HRA3.out.below hB4).gr (HGN.out.gr.below HBw4.out)
            rw [sameG_self'] at this
            refine this.mono ?_
            rintro e w' ⟨rfl, q, rfl⟩
            exact ⟨rfl, below_drewN' (Below.refl _ _) q⟩
          clear hB4 C4
          go_wp2_with fail
          refine C5.out.mono ?_
          rintro e w5 ⟨rfl, hB5⟩
          have HB5 : Hid (Below w4.heap.size w4 w5) := hB5
          have HB35 : Hid (Below w3.heap.size w3 w5) := HB4.out.trans (hB5.mono HB4.out.size)
          have C6 : Hid (Calls Try.prog 21 #[.slice va G vc, .func (Fn.func 22) #[] #[]] w5 fun e w' => e = .returned (.bool false) ∧ w' = w5) := containsFunc_any (by omega) HL.out (HRA3.out.below HB35.out)
          have C7 : Hid (Calls Try.prog 10 #[.slice af n cf, .slice a n c] w5 fun e w' => e = .returned (.bool true) ∧ Below w5.heap.size w5 w') := by
            have := equal_any af a n cf n c Y Y w5 (by omega) (HRf3.out.below HB35.out) (HR.out.below (HBw4.out.trans (hB5.mono HBw4.out.size)))
            rw [same_self] at this
            refine this.mono ?_
            rintro e w' ⟨rfl, q, rfl⟩
            exact ⟨rfl, below_drewN' (Below.refl _ _) q⟩
          clear hB5 C5
          go_wp2_with fail
          refine C6.out.mono ?_
          rintro e w5' ⟨rfl, rfl⟩
          go_wp2_with fail
          refine C7.out.mono ?_
          rintro e w6 ⟨rfl, hB6⟩
          have HB36 : Hid (Below w3.heap.size w3 w6) := HB35.out.trans (hB6.mono HB35.out.size)
          have HBw6 : Hid (Below w.heap.size w w6) := HBw3.out.trans (HB36.out.mono HBw3.out.size)
          have C8 : Hid (Calls Try.prog 23 #[.slice af n cf, .int .i64 77] w6 fun e w' => e = .returned (.bool true) ∧ w' = w6) := (HRm3.out.of_block HB36.out.block).kept hn
          have C9 : Hid (Calls Try.prog 17 #[.slice ga G gc] w6 fun e w' => e = .returned (.tuple #[.slice (some ⟨w6.heap.size, 0, none⟩) G G, .int .i64 0]) ∧ ∃ V, Fam w6 w' G (tl L Z G) V) := turn_ok ga G gc L Z w6 HL2.out (HGN.out.gr.below HBw6.out) H0.out
          clear hB6 C6 C7
          go_wp2_with fail
          refine C8.out.mono ?_
          rintro e w6' ⟨rfl, rfl⟩
          go_wp2_with fail
          refine C9.out.mono ?_
          rintro e w7 ⟨rfl, Vu, hFu⟩
          have HFu : Hid (Fam w6' w7 G (tl L Z G) Vu) := hFu
          have HB37 : Hid (Below w3.heap.size w3 w7) := HB36.out.trans (hFu.below.mono HB36.out.size)
          have HBw7 : Hid (Below w.heap.size w w7) := HBw3.out.trans (HB37.out.mono HBw3.out.size)
          have HBr7 : Hid (Below wr.heap.size wr w7) := (HB2.out.trans (HF.out.below.mono HB2.out.size)).trans (HB37.out.mono (Nat.le_trans HB2.out.size HF.out.below.size))
          have HSp7 : Hid (Spine w7 va G VS) := HSp.out.keep HBr7.out.block
          have HRows7 : Hid (∀ r, r < G → Spo w7 wb.heap.size wr.heap.size (VS r)) := fun r hr => (HRows.out r hr).keep (fun k _ hk => HBr7.out.block k hk)
          have HSz : Hid (w.heap.size ≤ wb.heap.size ∧ wr.heap.size ≤ w2.heap.size ∧ w2.heap.size ≤ w3.heap.size ∧ w3.heap.size ≤ w6'.heap.size ∧ w6'.heap.size ≤ w7.heap.size) := ⟨HS0.out.1, HB2.out.size, HF.out.below.size, HB36.out.size, hFu.below.size⟩
          clear hFu C8 C9 HRA2 HRA3 HRf HRf2 HRf3 HRm3 HSp HRows HB2 HB4 HB5 HB35
          obtain ⟨hi1, ehi⟩ : ∃ x, x = wr.heap.size := ⟨_, rfl⟩
          rw [← ehi] at HRows7 HSz
          have HBwr : Hid (w.heap.size ≤ w2.heap.size) := HBw2.out.size
          clear HBr7 HS0 HBw ehi
          go_wp2
          go_loopw [106] (fun i wx => ∃ k : Nat, k ≤ G ∧ i = .int .i64 k ∧ Hid (Spd wb.heap.size hi1 w7 wx)) (fun i _ => G - (intOf i).toNat)
          case atStart => exact ⟨0, Nat.zero_le _, rfl, Spd.refl _ _ _⟩
          case round =>
            obtain ⟨k, hk, rfl, HS8⟩ := hrel
            by_cases hlt : k < G
            · obtain ⟨b, cs, rfl, hb1, hb2⟩ := HSp7.out.spd HS8.out (by omega)
              have hcell := cell_of_block hb1 (hb2 k hlt)
              have hzk : (k : Int) < G := by omega
              have C : Hid (Calls Try.prog 24 #[VS k, .int .i64 0] wr fun e w' => e = .returned (.tuple #[]) ∧ Spd wb.heap.size hi1 wr w') := spoil_any ((HRows7.out k hlt).spd HS8.out)
              clear hb1 hb2
              go_wp2_with fail
              refine C.out.mono ?_
              rintro e wy ⟨rfl, hy⟩
              have HY : Hid (Spd wb.heap.size hi1 w7 wy) := HS8.out.trans hy
              clear hy C
              go_wp2
              go_roundw
              case rel => exact ⟨k + 1, by omega, by go_num, HY.out⟩
              case measure => simp [intOf]; omega
            · obtain ⟨w8, e8⟩ : ∃ x, x = wr := ⟨_, rfl⟩
              rw [← e8] at HS8
              have HBw8 : Hid (Below w.heap.size w w8) := HBw7.out.trans (HS8.out.below (HSz.out.1))
              have HT8 : Hid (∀ k, w2.heap.size ≤ k → k < w3.heap.size → w8.heap[k]? = w3.heap[k]?) := fun k h1 h2 => by
                rw [HS8.out.out k (Or.inr (by have := HSz.out; omega)), HB37.out.block k h2]
              have HU8 : Hid (∀ k, w6'.heap.size ≤ k → k < w7.heap.size → w8.heap[k]? = w7.heap[k]?) := fun k h1 h2 => HS8.out.out k (Or.inr (by have := HSz.out; omega))
              have C10 : Hid (Calls Try.prog 20 #[.slice (some ⟨w2.heap.size, 0, none⟩) G G, .slice (some ⟨w6'.heap.size, 0, none⟩) G G] w8 fun e w' => e = .returned (.bool true) ∧ Below w8.heap.size w8 w') := by
                have := lists_any _ _ G G G G _ _ _ _ w8 (by omega) (fun r _ => by have := tl_le L Z G r; omega) (HF.out.gr_of HT8.out) (HFu.out.gr_of HU8.out)
                rw [sameG_self'] at this
                refine this.mono ?_
                rintro e w' ⟨rfl, q, rfl⟩
                exact ⟨rfl, below_drewN' (Below.refl _ _) q⟩
              have HSt8 : Hid (Spine w8 (some ⟨w2.heap.size, 0, none⟩) G Vt) := (HF.out.spine.keep HB37.out.block).spd HS8.out
              have HTo8 : Hid (∀ r, r < G → Spo w8 (w2.heap.size + 1) w3.heap.size (Vt r)) := fun r hr => (owns_spo (HF.out.own r hr) (Nat.le_refl _)).keep (fun k h1 h2 => HT8.out k (by omega) h2)
              have HSz8 : Hid (w8.heap.size = w7.heap.size) := HS8.out.size
              rw [← e8]
              clear HS8 HSp7 HRows7 HF HB36 HB37 HBw7 HBw6 HBw3 HBw2 HT8 e8
              go_wp2_with fail
              refine C10.out.mono ?_
              rintro e w9 ⟨rfl, hB9⟩
              have HBw9 : Hid (Below w.heap.size w w9) := HBw8.out.trans (hB9.mono HBw8.out.size)
              have HU9 : Hid (∀ k, w6'.heap.size ≤ k → k < w7.heap.size → w9.heap[k]? = w7.heap[k]?) := fun k h1 h2 => by
                rw [hB9.block k (by have := HSz8.out; omega)]; exact HU8.out k h1 h2
              have HSt9 : Hid (Spine w9 (some ⟨w2.heap.size, 0, none⟩) G Vt) := HSt8.out.keep hB9.block
              have HTo9 : Hid (∀ r, r < G → Spo w9 (w2.heap.size + 1) w3.heap.size (Vt r)) := fun r hr => (HTo8.out r hr).keep (fun k h1 h2 => hB9.block k (by have := HSz8.out; have := HSz.out; omega))
              have HSz9 : Hid (w.heap.size ≤ w2.heap.size ∧ w7.heap.size ≤ w9.heap.size) := ⟨by have := HSz.out; have := HB0.out.size; have := HBwr.out; omega, by have := HSz8.out; have := hB9.size; omega⟩
              clear hB9 C10 HU8 HSt8 HTo8 HSz8 HBw8
              go_wp2
              go_loopw [118] (fun i wx => ∃ k : Nat, k ≤ G ∧ i = .int .i64 k ∧ Hid (Spd (w2.heap.size + 1) w3.heap.size w9 wx)) (fun i _ => G - (intOf i).toNat)
              case atStart => exact ⟨0, Nat.zero_le _, rfl, Spd.refl _ _ _⟩
              case round =>
                obtain ⟨k, hk, rfl, HS10⟩ := hrel
                by_cases hlt : k < G
                · obtain ⟨b, cs, eb, hb1, hb2⟩ := HSt9.out.spd HS10.out (by omega)
                  cases eb
                  have hcell := cell_of_block hb1 (hb2 k hlt)
                  have hzk : (k : Int) < G := by omega
                  have C : Hid (Calls Try.prog 24 #[Vt k, .int .i64 0] wr fun e w' => e = .returned (.tuple #[]) ∧ Spd (w2.heap.size + 1) w3.heap.size wr w') := spoil_any ((HTo9.out k hlt).spd HS10.out)
                  clear hb1 hb2
                  go_wp2_with fail
                  refine C.out.mono ?_
                  rintro e wy ⟨rfl, hy⟩
                  have HY : Hid (Spd (w2.heap.size + 1) w3.heap.size w9 wy) := HS10.out.trans hy
                  clear hy C
                  go_wp2
                  go_roundw
                  case rel => exact ⟨k + 1, by omega, by go_num, HY.out⟩
                  case measure => simp [intOf]; omega
                · obtain ⟨w10, e10⟩ : ∃ x, x = wr := ⟨_, rfl⟩
                  rw [← e10] at HS10
                  have HBw10 : Hid (Below w.heap.size w w10) := HBw9.out.trans (HS10.out.below (by have := HSz9.out.1; omega))
                  have HU10 : Hid (∀ k, w6'.heap.size ≤ k → k < w7.heap.size → w10.heap[k]? = w7.heap[k]?) := fun k h1 h2 => by
                    rw [HS10.out.out k (Or.inr (by have := HSz.out; omega))]; exact HU9.out k h1 h2
                  have HSz10 : Hid (w7.heap.size ≤ w10.heap.size) := by have h1 := HS10.out.size; have h2 := HSz9.out.2; show w7.heap.size ≤ w10.heap.size; omega
                  have C11 : Hid (Calls Try.prog 17 #[.slice ga G gc] w10 fun e w' => e = .returned (.tuple #[.slice (some ⟨w10.heap.size, 0, none⟩) G G, .int .i64 0]) ∧ ∃ V, Fam w10 w' G (tl L Z G) V) := turn_ok ga G gc L Z w10 HL2.out (HGN.out.gr.below HBw10.out) H0.out
                  rw [← e10]
                  clear HS10 HTo9 HSt9 HU9 e10
                  go_wp2_with fail
                  refine C11.out.mono ?_
                  rintro e w11 ⟨rfl, Vv, hFv⟩
                  have HBw11 : Hid (Below w.heap.size w w11) := HBw10.out.trans (hFv.below.mono HBw10.out.size)
                  have C12 : Hid (Calls Try.prog 20 #[.slice (some ⟨w6'.heap.size, 0, none⟩) G G, .slice (some ⟨w10.heap.size, 0, none⟩) G G] w11 fun e w' => e = .returned (.bool true) ∧ Below w11.heap.size w11 w') := by
                    have := lists_any _ _ G G G G _ _ _ _ w11 (by omega) (fun r _ => by have := tl_le L Z G r; omega) (HFu.out.gr_of (fun k h1 h2 => by rw [hFv.below.block k (by have := HSz10.out; omega)]; exact HU10.out k h1 h2)) (hFv.gr_of (fun k _ _ => rfl))
                    rw [sameG_self'] at this
                    refine this.mono ?_
                    rintro e w' ⟨rfl, q, rfl⟩
                    exact ⟨rfl, below_drewN' (Below.refl _ _) q⟩
                  clear hFv C11
                  go_wp2_with fail
                  refine C12.out.mono ?_
                  rintro e w12 ⟨rfl, hB12⟩
                  have HB12 : Hid (Below w.heap.size w w12) := HBw11.out.trans (hB12.mono HBw11.out.size)
                  clear hB12 C12
                  go_wp2
                  go_ret
                  exact ⟨rfl, HB12.out⟩
        · have C4 : Hid (Calls Try.prog 19 #[.slice va G vc, .slice af n cf] w3 fun e w' => e = .returned (.tuple #[.slice none 0 0, .int .i64 (errF G L Z n Y)]) ∧ w' = w3) := reach_bad' va G vc L Z af n cf Y w3 HL2.out (by omega) HRA3.out.gr HRf3.out _ rfl hf
          have hz : (errF G L Z n Y != 0) = true := by rw [bne_iff_ne]; exact hf
          have C5 : Hid (Calls Try.prog 10 #[.slice af n cf, .slice a n c] w3 fun e w' => e = .returned (.bool true) ∧ ∃ q, w' = w3.drewN q) := by
            have := equal_any af a n cf n c Y Y w3 (by omega) HRf3.out (HR.out.below HBw3.out)
            rwa [same_self] at this
          clear hf
          generalize errF G L Z n Y = E at *
          go_wp2_with fail
          refine C4.out.mono ?_
          rintro e w4 ⟨rfl, rfl⟩
          go_wp2_with fail
          refine C5.out.mono ?_
          rintro e w5 ⟨rfl, q, rfl⟩
          go_wp2
          go_ret
          exact ⟨rfl, below_drewN' HBw3.out q⟩
      · have C3 : Hid (Calls Try.prog 17 #[.slice va G vc] w2 fun e w' => e = .returned (.tuple #[.slice none 0 0, .int .i64 (errG G L Z)]) ∧ w' = w2) := turn_bad va G vc L Z w2 HL2.out HRA2.out.gr h0
        have C4 : Hid (Calls Try.prog 19 #[.slice va G vc, .slice af n cf] w2 fun e w' => e = .returned (.tuple #[.slice none 0 0, .int .i64 (errG G L Z)]) ∧ w' = w2) := reach_bad' va G vc L Z af n cf Y w2 HL2.out (by omega) HRA2.out.gr HRf2.out _ (by unfold errF; rw [if_neg h0]) h0
        have hz : (errG G L Z != 0) = true := by rw [bne_iff_ne]; exact h0
        have hz' : (errG G L Z == 0) = false := by rw [beq_eq_false_iff_ne]; exact h0
        have C5 : Hid (Calls Try.prog 10 #[.slice af n cf, .slice a n c] w2 fun e w' => e = .returned (.bool true) ∧ ∃ q, w' = w2.drewN q) := by
          have := equal_any af a n cf n c Y Y w2 (by omega) HRf2.out (HR.out.below HBw2.out)
          rwa [same_self] at this
        clear h0
        generalize errG G L Z = E at *
        go_wp2_with fail
        refine C3.out.mono ?_
        rintro e w3 ⟨rfl, rfl⟩
        go_wp2_with fail
        refine C4.out.mono ?_
        rintro e w4 ⟨rfl, rfl⟩
        go_wp2_with fail
        refine C5.out.mono ?_
        rintro e w5 ⟨rfl, q, rfl⟩
        go_wp2
        go_ret
        exact ⟨rfl, below_drewN' HBw2.out q⟩

end Go.Proofs.Ytddingbfjkmdeaa
