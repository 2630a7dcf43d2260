/- firstStill, firstNever. -/
import Derived.Test.YtjenkhphngiphaaSndLeafJ
import Derived.Test.YtjenkhphngiphaaTurn2J
namespace Go.Proofs.Ytjenkhphngiphaa
open Go.RowKit

set_option maxHeartbeats 1000000 in
theorem firstStill_any {ma xa : Option Addr} {F mc G xc : Nat} {Y : Nat → Nat → Int} {L : Nat → Nat} {S Z : Nat → Nat → Int} {w : World} (hF : F ≤ 1000) (hG : G ≤ 1000) (hm : Gr w ma G (fun _ => F) Y) (h : Egs w xa G L S Z) (hL : ∀ r, r < G → L r ≤ 1000) :
    Calls Try.prog 22 #[.agg #[.slice ma G mc, .slice xa G xc]] w fun e w' => (∃ r : Int, e = .returned (.int .i64 r) ∧ FstIs (fun i => L i = 0 ∧ zB F (Y i) = false) G r) ∧ Below w.heap.size w w' := by
  obtain ⟨W, eW⟩ : ∃ x, x = w.alloc (.cells #[.slice ma G mc, .slice xa G xc] 35) := ⟨_, rfl⟩
  have HW : Hid (Below w.heap.size w W) := by subst eW; exact box_below _ _
  have hb1 : W.cell? ⟨w.heap.size, 1, none⟩ = some (.slice xa G xc) := by subst eW; exact cell_of_alloc rfl
  have HEW : Hid (w.alloc (.cells #[.slice ma G mc, .slice xa G xc] 35) = W) := eW.symm
  obtain ⟨b, o, ha, hc⟩ := h.below HW.out
  obtain ⟨mb, mo, hma, hmc⟩ := hm.below HW.out
  have HC : Hid (∀ r, r < G → ∃ a c, W.cell? ⟨b, o + r, none⟩ = some (.slice a (L r) c) ∧ Fls W a (L r) (S r) (Z r)) := hc
  have HMC : Hid (∀ r, r < G → ∃ a c, W.cell? ⟨mb, mo + r, none⟩ = some (.slice a F c) ∧ Row W a F (Y r)) := hmc
  have HL : Hid (∀ r, r < G → L r ≤ 1000) := hL
  clear hc hmc hm h hL eW
  go_enter Try.func22, Try.ntmps22
  go_wp2
  go_loopw [8] (fun i wr => ∃ k : Nat, k ≤ G ∧ i = .int .i64 k ∧ Hid (∀ j, j < k → ¬ (L j = 0 ∧ zB F (Y j) = false)) ∧ wr = W) (fun i _ => G - (intOf i).toNat)
  case atStart => exact ⟨0, Nat.zero_le _, rfl, hid (fun j hj => by omega), HEW.out⟩
  case round =>
    obtain ⟨k, hk, rfl, HJ, rfl⟩ := hrel
    by_cases hlt : k < G
    · obtain rfl := ha (by omega)
      obtain rfl := hma (by omega)
      have hkz : (k : Int) < G := by omega
      obtain ⟨ea, ec, hck, _⟩ := HC.out k hlt
      obtain ⟨ra, rc, hmk, hrow⟩ := HMC.out k hlt
      have hLk := HL.out k hlt
      have C1 : Hid (Calls Try.prog 46 #[.slice ra F rc] wr fun e w' => e = .returned (.bool (zB F (Y k))) ∧ w' = wr) := isEmpty_any hF hrow
      have HNext : Hid (¬ (L k = 0 ∧ zB F (Y k) = false) → ∀ j, j < k + 1 → ¬ (L j = 0 ∧ zB F (Y j) = false)) := fun hn j hj => by
        by_cases e : j = k
        · subst e; exact hn
        · exact HJ.out j (by omega)
      clear hrow
      by_cases hl0 : L k = 0
      · have HL0 : Hid (L k = 0) := hl0
        rw [hl0] at hck
        clear hl0
        cases hz : zB F (Y k)
        · have HZ : Hid (zB F (Y k) = false) := hz
          rw [hz] at C1
          clear hz
          go_wp2_with fail
          refine C1.out.mono ?_
          rintro e w1 ⟨rfl, rfl⟩
          go_wp2
          go_ret
          exact ⟨⟨k, rfl, .hit hlt ⟨HL0.out, HZ.out⟩ HJ.out⟩, HW.out⟩
        · have HN : Hid (∀ j, j < k + 1 → ¬ (L j = 0 ∧ zB F (Y j) = false)) := HNext.out (fun hh => by rw [hz] at hh; cases hh.2)
          rw [hz] at C1
          clear hz
          go_wp2_with fail
          refine C1.out.mono ?_
          rintro e w1 ⟨rfl, rfl⟩
          go_wp2
          go_roundw
          case rel => exact ⟨k + 1, by omega, by go_num, HN, trivial⟩
          case measure => simp [intOf]; omega
      · have HN : Hid (∀ j, j < k + 1 → ¬ (L j = 0 ∧ zB F (Y j) = false)) := HNext.out (fun hh => hl0 hh.1)
        have hl' : ((L k : Int) == 0) = false := by rw [beq_eq_false_iff_ne]; omega
        generalize L k = lk at *
        clear hl0
        go_wp2
        go_roundw
        case rel => exact ⟨k + 1, by omega, by go_num, HN, trivial⟩
        case measure => simp [intOf]; omega
    · obtain rfl : k = G := by omega
      go_wp2
      go_ret
      exact ⟨⟨-1, rfl, .no HJ.out⟩, HW.out⟩

/-- From which markings the one without a token isn't come to. -/
def NvP (G F : Nat) (L : Nat → Nat) (Z : Nat → Nat → Int) (Y : Nat → Nat → Int) (i : Nat) : Prop := ¬ ∃ k, k < G ∧ zB F (Y k) = true ∧ RchG (Ego G L Z) i k

theorem errF_one {G : Nat} {L : Nat → Nat} {Z : Nat → Nat → Int} {x : Nat} (h : errG G L Z = 0) (hx : x < G) : errF G L Z 1 (fun _ => (x : Int)) = 0 := by
  unfold errF
  rw [if_pos h, if_pos (allIn_yes (fun i _ => by constructor <;> omega))]

theorem box_row (w : World) (x : Int) : Row (w.alloc (.cells #[.int .i64 x] 3)) (some ⟨w.heap.size, 0, none⟩) 1 (fun _ => x) := one_row w x

set_option maxHeartbeats 1000000 in
theorem firstNever_any {ma xa ga : Option Addr} {F mc G xc xl gc : Nat} {Y : Nat → Nat → Int} {L : Nat → Nat} {Z : Nat → Nat → Int} {w : World} (hF : F ≤ 1000) (hG : G ≤ 1000) (hG1 : 1 ≤ G) (hm : Gr w ma G (fun _ => F) Y) (hg : Gr w ga G L Z) (hL : ∀ r, r < G → L r ≤ 1000) (he : errG G L Z = 0)
    (hu : ∀ i k, i < G → k < G → zB F (Y i) = true → zB F (Y k) = true → i = k) :
    Calls Try.prog 23 #[.agg #[.slice ma G mc, .slice xa xl xc], .slice ga G gc] w fun e w' => (∃ r : Int, e = .returned (.int .i64 r) ∧ FstIs (NvP G F L Z Y) G r) ∧ Below w.heap.size w w' := by
  obtain ⟨W, eW⟩ : ∃ x, x = w.alloc (.cells #[.slice ma G mc, .slice xa xl xc] 35) := ⟨_, rfl⟩
  have HW : Hid (Below w.heap.size w W) := by subst eW; exact box_below _ _
  have HEW : Hid (w.alloc (.cells #[.slice ma G mc, .slice xa xl xc] 35) = W) := eW.symm
  have C1 : Hid (Calls Try.prog 17 #[.slice ma G mc, .func (Fn.func 46) #[] #[]] W fun e w' => (∃ r : Int, e = .returned (.int .i64 r) ∧ FstIs (fun i => zB F (Y i) = true) G r) ∧ w' = W) := emptyIdx_any hF hG (hm.below HW.out)
  have C2 : Hid (Calls Try.prog 47 #[.slice ga G gc] W fun e w' => e = .returned (.tuple #[.slice (some ⟨W.heap.size, 0, none⟩) G G, .int .i64 0]) ∧ ∃ V, Fam W w' G (tl L Z G) V) := turn_ok ga G gc L Z W (fun r hr => by have := hL r hr; omega) (hg.below HW.out) he
  have HU : Hid (∀ i k, i < G → k < G → zB F (Y i) = true → zB F (Y k) = true → i = k) := hu
  have HE : Hid (errG G L Z = 0) := he
  clear hm hg hL he hu eW
  go_enter Try.func23, Try.ntmps23
  go_wp2_with fail
  rw [HEW.out]
  refine C1.out.mono ?_
  rintro e w1 ⟨⟨r, rfl, hr⟩, rfl⟩
  rcases hr with ⟨rfl, hno⟩ | ⟨k, hk, rfl, hz, hj⟩
  · have HF0 : Hid (FstIs (NvP G F L Z Y) G 0) := FstIs.hit (k := 0) (by omega) (fun ⟨k, hk, hz, _⟩ => hno k hk hz) (fun j hj => by omega)
    clear hno
    go_wp2
    go_ret
    exact ⟨⟨0, rfl, HF0.out⟩, HW.out⟩
  · have HZ : Hid (zB F (Y k) = true) := hz
    have hk0 : ¬ (k : Int) < 0 := by omega
    clear hz hj C1
    go_wp2_with fail
    refine C2.out.mono ?_
    rintro e w2 ⟨rfl, V, hFam⟩
    have HB2 : Hid (Below w.heap.size w w2) := HW.out.trans (hFam.below.mono HW.out.size)
    have hgr : Gr w2 (some ⟨w1.heap.size, 0, none⟩) G (tL L Z G) (tZ L Z G) := hFam.gr
    have hte : errG G (tL L Z G) (tZ L Z G) = 0 := turn_errG HE.out
    obtain ⟨U, eU⟩ : ∃ x, x = w2.alloc (.cells #[.int .i64 (k : Int)] 3) := ⟨_, rfl⟩
    have HEU : Hid (w2.alloc (.cells #[.int .i64 (k : Int)] 3) = U) := eU.symm
    have HBU : Hid (Below w.heap.size w U) := by subst eU; exact HB2.out.alloc HB2.out.size _
    have C3 : Hid (Calls Try.prog 19 #[.slice (some ⟨w1.heap.size, 0, none⟩) G G, .slice (some ⟨w2.heap.size, 0, none⟩) 1 1] U fun e w' => ∃ (b : Nat) (R : Nat → Bool), e = .returned (.tuple #[.slice (some ⟨b, 0, none⟩) G G, .int .i64 0]) ∧ Below U.heap.size U w' ∧ Rowb w' (some ⟨b, 0, none⟩) G R ∧ ∀ x, x < G → (R x = true ↔ RchG (Ego G L Z) x k)) := by
      have hgU : Gr U (some ⟨w1.heap.size, 0, none⟩) G (tL L Z G) (tZ L Z G) := by subst eU; exact hgr.below (box_below _ _)
      have hrU : Row U (some ⟨w2.heap.size, 0, none⟩) 1 (fun _ => (k : Int)) := by subst eU; exact box_row w2 k
      refine (reach_ok _ G G _ _ _ 1 1 (fun _ => (k : Int)) _ (fun j _ => by have := tl_le L Z G j; show (tl L Z G j).length ≤ _; omega) (by omega) hgU hrU (errF_one hte hk)).mono ?_
      rintro e w' ⟨b, R, rfl, h1, _, h2, h3⟩
      exact ⟨b, R, rfl, h1, rowb_of_rowIs h2, fun x hx => by rw [h3 x hx, comes_one, rch_turn HE.out]⟩
    clear hFam hgr hte eU C2
    go_wp2_with fail
    rw [HEU.out]
    refine C3.out.mono ?_
    rintro e w3 ⟨rb, R, rfl, hb3, hrow, hR⟩
    have HB3 : Hid (Below w.heap.size w w3) := HBU.out.trans (hb3.mono HBU.out.size)
    have HR : Hid (∀ x, x < G → (R x = true ↔ RchG (Ego G L Z) x k)) := hR
    have C4 : Hid (Calls Try.prog 48 #[.slice (some ⟨rb, 0, none⟩) G G, .bool false] w3 fun e w' => (∃ r : Int, e = .returned (.int .i64 r) ∧ FstIs (fun i => R i = false) G r) ∧ w' = w3) := idxB_any hG hrow
    clear hb3 hrow hR C3
    go_wp2_with fail
    refine C4.out.mono ?_
    rintro e w4 ⟨⟨r, rfl, hr⟩, rfl⟩
    have HFin : Hid (FstIs (NvP G F L Z Y) G r) := hr.congr (fun i hi => by
      constructor
      · rintro hf ⟨q, hq, hzq, hrq⟩
        have := HU.out q k hq hk hzq HZ.out
        subst this
        rw [(HR.out i hi).2 hrq] at hf
        cases hf
      · intro hn
        cases e : R i
        · rfl
        · exact absurd ⟨k, hk, HZ.out, (HR.out i hi).1 e⟩ hn)
    rcases hr with ⟨rfl, _⟩ | ⟨q, hq, rfl, _⟩
    · clear C4
      go_wp2
      go_ret
      exact ⟨⟨-1, rfl, HFin.out⟩, HB3.out⟩
    · have hq0 : (0 : Int) ≤ (q : Int) := by omega
      clear C4
      go_wp2
      go_ret
      exact ⟨⟨q, rfl, HFin.out⟩, HB3.out⟩

end Go.Proofs.Ytjenkhphngiphaa
