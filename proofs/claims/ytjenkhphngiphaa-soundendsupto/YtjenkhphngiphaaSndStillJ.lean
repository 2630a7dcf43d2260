/- firstStill, firstNever. dead: the nodes of which no edge has a step. stepsTo: the steps of a shortest way. -/
import Derived.Test.YtjenkhphngiphaaSndLeafJ
import Derived.Test.YtjenkhphngiphaaWaysJ
import Derived.Test.YtjenkhphngiphaaRefComes
import Derived.Test.YtjenkhphngiphaaStepsOf2
namespace Go.Proofs.Ytjenkhphngiphaa
open Go.RowKit

set_option maxHeartbeats 1000000 in
theorem firstStill_any {ma xa : Option Addr} {F mc G xc : Nat} {Y : Nat → Nat → Int} {L : Nat → Nat} {S Z : Nat → Nat → Int} {w : World} (hF : F ≤ 1000) (hG : G ≤ 1000) (hm : Gr w ma G (fun _ => F) Y) (h : Egs w xa G L S Z) (hL : ∀ r, r < G → L r ≤ 1000) :
    Calls Try.prog 22 #[.agg #[.slice ma G mc, .slice xa G xc]] w fun e w' => (∃ r : Int, e = .returned (.int .i64 r) ∧ FstIs (fun i => L i = 0 ∧ zB F (Y i) = false) G r) ∧ Below w.heap.size w w' := by
  obtain ⟨W, eW⟩ : ∃ x, x = w.alloc (.cells #[.slice ma G mc, .slice xa G xc] 35) := ⟨_, rfl⟩
  have HW : Hid (Below w.heap.size w W) := by subst eW; exact box_below _ _
  have hb1 : W.cell? ⟨w.heap.size, 1, none⟩ = some (.slice xa G xc) := by subst eW; exact cell_of_alloc rfl
  have HEW : Hid (w.alloc (.cells #[.slice ma G mc, .slice xa G xc] 35) = W) := eW.symm
  obtain ⟨b, o, ha, hc⟩ := h.below HW.out
  obtain ⟨mb, mo, hma, hmc⟩ := hm.below HW.out
  have HC : Hid (∀ r, r < G → ∃ a c, W.cell? ⟨b, o + r, none⟩ = some (.slice a (L r) c) ∧ Fls W a (L r) (S r) (Z r)) := hc
  have HMC : Hid (∀ r, r < G → ∃ a c, W.cell? ⟨mb, mo + r, none⟩ = some (.slice a F c) ∧ Row W a F (Y r)) := hmc
  have HL : Hid (∀ r, r < G → L r ≤ 1000) := hL
  clear hc hmc hm h hL eW
  go_enter Try.func22, Try.ntmps22
  go_wp2
  go_loopw [8] (fun i wr => ∃ k : Nat, k ≤ G ∧ i = .int .i64 k ∧ Hid (∀ j, j < k → ¬ (L j = 0 ∧ zB F (Y j) = false)) ∧ wr = W) (fun i _ => G - (intOf i).toNat)
  case atStart => exact ⟨0, Nat.zero_le _, rfl, hid (fun j hj => by omega), HEW.out⟩
  case round =>
    obtain ⟨k, hk, rfl, HJ, rfl⟩ := hrel
    by_cases hlt : k < G
    · obtain rfl := ha (by omega)
      obtain rfl := hma (by omega)
      have hkz : (k : Int) < G := by omega
      obtain ⟨ea, ec, hck, _⟩ := HC.out k hlt
      obtain ⟨ra, rc, hmk, hrow⟩ := HMC.out k hlt
      have hLk := HL.out k hlt
      have C1 : Hid (Calls Try.prog 46 #[.slice ra F rc] wr fun e w' => e = .returned (.bool (zB F (Y k))) ∧ w' = wr) := isEmpty_any hF hrow
      have HNext : Hid (¬ (L k = 0 ∧ zB F (Y k) = false) → ∀ j, j < k + 1 → ¬ (L j = 0 ∧ zB F (Y j) = false)) := fun hn j hj => by
        by_cases e : j = k
        · subst e; exact hn
        · exact HJ.out j (by omega)
      clear hrow
      by_cases hl0 : L k = 0
      · have HL0 : Hid (L k = 0) := hl0
        rw [hl0] at hck
        clear hl0
        cases hz : zB F (Y k)
        · have HZ : Hid (zB F (Y k) = false) := hz
          rw [hz] at C1
          clear hz
          go_wp2_with fail
          refine C1.out.mono ?_
          rintro e w1 ⟨rfl, rfl⟩
          go_wp2
          go_ret
          exact ⟨⟨k, rfl, .hit hlt ⟨HL0.out, HZ.out⟩ HJ.out⟩, HW.out⟩
        · have HN : Hid (∀ j, j < k + 1 → ¬ (L j = 0 ∧ zB F (Y j) = false)) := HNext.out (fun hh => by rw [hz] at hh; cases hh.2)
          rw [hz] at C1
          clear hz
          go_wp2_with fail
          refine C1.out.mono ?_
          rintro e w1 ⟨rfl, rfl⟩
          go_wp2
          go_roundw
          case rel => exact ⟨k + 1, by omega, by go_num, HN, trivial⟩
          case measure => simp [intOf]; omega
      · have HN : Hid (∀ j, j < k + 1 → ¬ (L j = 0 ∧ zB F (Y j) = false)) := HNext.out (fun hh => hl0 hh.1)
        have hl' : ((L k : Int) == 0) = false := by rw [beq_eq_false_iff_ne]; omega
        generalize L k = lk at *
        clear hl0
        go_wp2
        go_roundw
        case rel => exact ⟨k + 1, by omega, by go_num, HN, trivial⟩
        case measure => simp [intOf]; omega
    · obtain rfl : k = G := by omega
      go_wp2
      go_ret
      exact ⟨⟨-1, rfl, .no HJ.out⟩, HW.out⟩

/-- From which markings the one without a token isn't come to. -/
def NvP (G F : Nat) (L : Nat → Nat) (Z : Nat → Nat → Int) (Y : Nat → Nat → Int) (i : Nat) : Prop := ¬ ∃ k, k < G ∧ zB F (Y k) = true ∧ RchG (Ego G L Z) i k

theorem errF_one {G : Nat} {L : Nat → Nat} {Z : Nat → Nat → Int} {x : Nat} (h : errG G L Z = 0) (hx : x < G) : errF G L Z 1 (fun _ => (x : Int)) = 0 := by
  unfold errF
  rw [if_pos h, if_pos (allIn_yes (fun i _ => by constructor <;> omega))]

theorem box_row (w : World) (x : Int) : Row (w.alloc (.cells #[.int .i64 x] 3)) (some ⟨w.heap.size, 0, none⟩) 1 (fun _ => x) := one_row w x

set_option maxHeartbeats 1000000 in
theorem firstNever_any {ma xa ga : Option Addr} {F mc G xc xl gc : Nat} {Y : Nat → Nat → Int} {L : Nat → Nat} {Z : Nat → Nat → Int} {w : World} (hF : F ≤ 1000) (hG : G ≤ 1000) (hG1 : 1 ≤ G) (hm : Gr w ma G (fun _ => F) Y) (hg : Gr w ga G L Z) (hL : ∀ r, r < G → L r ≤ 1000) (he : errG G L Z = 0)
    (hu : ∀ i k, i < G → k < G → zB F (Y i) = true → zB F (Y k) = true → i = k) :
    Calls Try.prog 23 #[.agg #[.slice ma G mc, .slice xa xl xc], .slice ga G gc] w fun e w' => (∃ r : Int, e = .returned (.int .i64 r) ∧ FstIs (NvP G F L Z Y) G r) ∧ Below w.heap.size w w' := by
  obtain ⟨W, eW⟩ : ∃ x, x = w.alloc (.cells #[.slice ma G mc, .slice xa xl xc] 35) := ⟨_, rfl⟩
  have HW : Hid (Below w.heap.size w W) := by subst eW; exact box_below _ _
  have HEW : Hid (w.alloc (.cells #[.slice ma G mc, .slice xa xl xc] 35) = W) := eW.symm
  have C1 : Hid (Calls Try.prog 17 #[.slice ma G mc, .func (Fn.func 46) #[] #[]] W fun e w' => (∃ r : Int, e = .returned (.int .i64 r) ∧ FstIs (fun i => zB F (Y i) = true) G r) ∧ w' = W) := emptyIdx_any hF hG (hm.below HW.out)
  have C2 : Hid (Calls Try.prog 47 #[.slice ga G gc] W fun e w' => e = .returned (.tuple #[.slice (some ⟨W.heap.size, 0, none⟩) G G, .int .i64 0]) ∧ ∃ V, Fam W w' G (tl L Z G) V) := turn_ok ga G gc L Z W (fun r hr => by have := hL r hr; omega) (hg.below HW.out) he
  have HU : Hid (∀ i k, i < G → k < G → zB F (Y i) = true → zB F (Y k) = true → i = k) := hu
  have HE : Hid (errG G L Z = 0) := he
  clear hm hg hL he hu eW
  go_enter Try.func23, Try.ntmps23
  go_wp2_with fail
  rw [HEW.out]
  refine C1.out.mono ?_
  rintro e w1 ⟨⟨r, rfl, hr⟩, rfl⟩
  rcases hr with ⟨rfl, hno⟩ | ⟨k, hk, rfl, hz, hj⟩
  · have HF0 : Hid (FstIs (NvP G F L Z Y) G 0) := FstIs.hit (k := 0) (by omega) (fun ⟨k, hk, hz, _⟩ => hno k hk hz) (fun j hj => by omega)
    clear hno
    go_wp2
    go_ret
    exact ⟨⟨0, rfl, HF0.out⟩, HW.out⟩
  · have HZ : Hid (zB F (Y k) = true) := hz
    have hk0 : ¬ (k : Int) < 0 := by omega
    clear hz hj C1
    go_wp2_with fail
    refine C2.out.mono ?_
    rintro e w2 ⟨rfl, V, hFam⟩
    have HB2 : Hid (Below w.heap.size w w2) := HW.out.trans (hFam.below.mono HW.out.size)
    have hgr : Gr w2 (some ⟨w1.heap.size, 0, none⟩) G (tL L Z G) (tZ L Z G) := hFam.gr
    have hte : errG G (tL L Z G) (tZ L Z G) = 0 := turn_errG HE.out
    obtain ⟨U, eU⟩ : ∃ x, x = w2.alloc (.cells #[.int .i64 (k : Int)] 3) := ⟨_, rfl⟩
    have HEU : Hid (w2.alloc (.cells #[.int .i64 (k : Int)] 3) = U) := eU.symm
    have HBU : Hid (Below w.heap.size w U) := by subst eU; exact HB2.out.alloc HB2.out.size _
    have C3 : Hid (Calls Try.prog 19 #[.slice (some ⟨w1.heap.size, 0, none⟩) G G, .slice (some ⟨w2.heap.size, 0, none⟩) 1 1] U fun e w' => ∃ (b : Nat) (R : Nat → Bool), e = .returned (.tuple #[.slice (some ⟨b, 0, none⟩) G G, .int .i64 0]) ∧ Below U.heap.size U w' ∧ Rowb w' (some ⟨b, 0, none⟩) G R ∧ ∀ x, x < G → (R x = true ↔ RchG (Ego G L Z) x k)) := by
      have hgU : Gr U (some ⟨w1.heap.size, 0, none⟩) G (tL L Z G) (tZ L Z G) := by subst eU; exact hgr.below (box_below _ _)
      have hrU : Row U (some ⟨w2.heap.size, 0, none⟩) 1 (fun _ => (k : Int)) := by subst eU; exact box_row w2 k
      refine (reach_ok _ G G _ _ _ 1 1 (fun _ => (k : Int)) _ (fun j _ => by have := tl_le L Z G j; show (tl L Z G j).length ≤ _; omega) (by omega) hgU hrU (errF_one hte hk)).mono ?_
      rintro e w' ⟨b, R, rfl, h1, _, h2, h3⟩
      exact ⟨b, R, rfl, h1, rowb_of_rowIs h2, fun x hx => by rw [h3 x hx, comes_one, rch_turn HE.out]⟩
    clear hFam hgr hte eU C2
    go_wp2_with fail
    rw [HEU.out]
    refine C3.out.mono ?_
    rintro e w3 ⟨rb, R, rfl, hb3, hrow, hR⟩
    have HB3 : Hid (Below w.heap.size w w3) := HBU.out.trans (hb3.mono HBU.out.size)
    have HR : Hid (∀ x, x < G → (R x = true ↔ RchG (Ego G L Z) x k)) := hR
    have C4 : Hid (Calls Try.prog 48 #[.slice (some ⟨rb, 0, none⟩) G G, .bool false] w3 fun e w' => (∃ r : Int, e = .returned (.int .i64 r) ∧ FstIs (fun i => R i = false) G r) ∧ w' = w3) := idxB_any hG hrow
    clear hb3 hrow hR C3
    go_wp2_with fail
    refine C4.out.mono ?_
    rintro e w4 ⟨⟨r, rfl, hr⟩, rfl⟩
    have HFin : Hid (FstIs (NvP G F L Z Y) G r) := hr.congr (fun i hi => by
      constructor
      · rintro hf ⟨q, hq, hzq, hrq⟩
        have := HU.out q k hq hk hzq HZ.out
        subst this
        rw [(HR.out i hi).2 hrq] at hf
        cases hf
      · intro hn
        cases e : R i
        · rfl
        · exact absurd ⟨k, hk, HZ.out, (HR.out i hi).1 e⟩ hn)
    rcases hr with ⟨rfl, _⟩ | ⟨q, hq, rfl, _⟩
    · clear C4
      go_wp2
      go_ret
      exact ⟨⟨-1, rfl, HFin.out⟩, HB3.out⟩
    · have hq0 : (0 : Int) ≤ (q : Int) := by omega
      clear C4
      go_wp2
      go_ret
      exact ⟨⟨q, rfl, HFin.out⟩, HB3.out⟩

end Go.Proofs.Ytjenkhphngiphaa

namespace Go.Proofs.Ytjenkhphngiphaa
open Go.RowKit

theorem Cw.alloc {w wr : World} {G : Nat} {O : Nat → Bool} (h : Cw w wr G O) (o : Obj) : Cw w (wr.alloc o) G O := ⟨h.below.alloc h.below.size o, h.row.alloc o⟩

/-- Which nodes have a step at an edge: those of the markings below r, and the first k of the r-th one. -/
def DoesIs (N : Nat) (L : Nat → Nat) (S : Nat → Nat → Int) (T : Nat → St3) (r k : Nat) (D : Nat → Bool) : Prop :=
  ∀ i, i < N → (D i = true ↔ ∃ p q, q < L p ∧ (p < r ∨ (p = r ∧ q < k)) ∧ (T (S p q).toNat).1 = (i : Int))

section
variable {N : Nat} {L : Nat → Nat} {S : Nat → Nat → Int} {T : Nat → St3} {r k : Nat} {D : Nat → Bool}

theorem does_start : DoesIs N L S T 0 0 (fun _ => false) := fun i _ => ⟨fun h => (by cases h), fun ⟨p, q, _, h, _⟩ => (by omega)⟩
theorem does_step {x : Nat} (hk : k < L r) (hx : (T (S r k).toNat).1 = x) (h : DoesIs N L S T r k D) : DoesIs N L S T r (k + 1) (mark D x) := fun i hi => by
  unfold mark
  constructor
  · intro hD
    by_cases e : i = x
    · subst e
      exact ⟨r, k, hk, Or.inr ⟨rfl, by omega⟩, hx⟩
    · rw [if_neg e] at hD
      obtain ⟨p, q, h1, h2, h3⟩ := (h i hi).1 hD
      exact ⟨p, q, h1, by omega, h3⟩
  · rintro ⟨p, q, h1, h2, h3⟩
    by_cases e : i = x
    · rw [if_pos e]
    · rw [if_neg e]
      refine (h i hi).2 ⟨p, q, h1, ?_, h3⟩
      rcases h2 with h2 | ⟨h2, h4⟩
      · exact Or.inl h2
      · subst h2
        by_cases e2 : q = k
        · subst e2
          rw [hx] at h3
          omega
        · exact Or.inr ⟨rfl, by omega⟩
theorem does_full (h : DoesIs N L S T r (L r) D) : DoesIs N L S T (r + 1) 0 D := fun i hi => by
  rw [h i hi]
  constructor
  · rintro ⟨p, q, h1, h2, h3⟩
    exact ⟨p, q, h1, by omega, h3⟩
  · rintro ⟨p, q, h1, h2, h3⟩
    refine ⟨p, q, h1, ?_, h3⟩
    by_cases e : p = r
    · subst e
      exact Or.inr ⟨rfl, h1⟩
    · exact Or.inl (by omega)
end

def ddX (D : Nat → Bool) (K : Nat → Int) (i : Nat) : Int := if D i = true ∨ K i = 1 then 0 else 1

/-- The nodes that never do anything. -/
def DeadIs (N G : Nat) (L : Nat → Nat) (S : Nat → Nat → Int) (T : Nat → St3) (K : Nat → Int) (l : List Int) : Prop := ∃ D, DoesIs N L S T G 0 D ∧ l = fl (ddX D K) 1 N

theorem fl_same {X Y : Nat → Int} {x : Int} : ∀ {n}, (∀ i, i < n → X i = Y i) → fl X x n = fl Y x n
  | 0, _ => rfl
  | n + 1, h => by
    have := fl_same (x := x) (n := n) (fun i hi => h i (by omega))
    simp only [fl, this, h n (by omega)]

theorem DeadIs.uniq {N G : Nat} {L : Nat → Nat} {S : Nat → Nat → Int} {T : Nat → St3} {K : Nat → Int} {l l' : List Int} (h : DeadIs N G L S T K l) (h' : DeadIs N G L S T K l') : l = l' := by
  obtain ⟨D, h1, rfl⟩ := h
  obtain ⟨D', h1', rfl⟩ := h'
  refine fl_same (fun i hi => ?_)
  have : D i = D' i := by rw [Bool.eq_iff_iff, h1 i hi, h1' i hi]
  unfold ddX
  rw [this]

set_option maxHeartbeats 1000000 in
theorem dead_any {na fa ma xa la : Option Addr} {N nc F fc ml mc G xc ln lc : Nat} {M : Nat → ByteArray} {K : Nat → Int} {L : Nat → Nat} {S Z : Nat → Nat → Int} {T : Nat → St3} {w : World} (hN : N ≤ 1000) (hG : G ≤ 1000) (hln : ln ≤ 1000) (hL : ∀ r, r < G → L r ≤ 1000) (hn : Nds w na N M K) (h : Egs w xa G L S Z) (hl : Sts w la ln T)
    (hS : ∀ r, r < G → ∀ i, i < L r → 0 ≤ S r i ∧ S r i < ln) (hT : ∀ s, s < ln → 0 ≤ (T s).1 ∧ (T s).1 < N) :
    Calls Try.prog 24 #[.agg #[.slice na N nc, .slice fa F fc], .slice la ln lc, .agg #[.slice ma ml mc, .slice xa G xc]] w fun e w' => (∃ (a : Option Addr) (c : Nat) (l : List Int), e = .returned (.slice a l.length c) ∧ DeadIs N G L S T K l ∧ w'.ownsRow w.heap.size 3 1 (.slice a l.length c) l.length (vals l)) ∧ Below w.heap.size w w' := by
  obtain ⟨b, o, ha, hc⟩ := h
  obtain ⟨lb, lo, hla, hlc⟩ := hl
  obtain ⟨nb, no, hna, hnc⟩ := hn
  have HC : Hid (∀ r, r < G → ∃ a c, w.cell? ⟨b, o + r, none⟩ = some (.slice a (L r) c) ∧ Fls w a (L r) (S r) (Z r)) := hc
  have HLC : Hid (∀ i, i < ln → w.cell? ⟨lb, lo + i * 3, none⟩ = some (.int .i64 (T i).1) ∧ w.cell? ⟨lb, lo + i * 3 + 1, none⟩ = some (.int .i64 (T i).2.1) ∧ w.cell? ⟨lb, lo + i * 3 + 2, none⟩ = some (.int .i64 (T i).2.2)) := hlc
  have HNC : Hid (∀ i, i < N → w.cell? ⟨nb, no + i * 2, none⟩ = some (.string (M i)) ∧ w.cell? ⟨nb, no + i * 2 + 1, none⟩ = some (.int .i64 (K i))) := hnc
  have HL : Hid (∀ r, r < G → L r ≤ 1000) := hL
  have HS : Hid (∀ r, r < G → ∀ i, i < L r → 0 ≤ S r i ∧ S r i < ln) := hS
  have HT : Hid (∀ s, s < ln → 0 ≤ (T s).1 ∧ (T s).1 < N) := hT
  clear hc hlc hnc hL hS hT
  have hmk := run_make_row' (P := Try.prog) 59 4 (.bool false) 1 Try.underlying59 Try.info4 rfl .i64 .i64 N (by omega) (by omega)
  obtain ⟨i0, hi, hz0, hz1, hz2⟩ := info_parts Try.info3
  have HI : Hid (Try.prog.info? 3 = some i0 ∧ i0.zero = some (.int .i64 0) ∧ i0.size = 1 ∧ i0.bytes = 8) := ⟨hi, hz0, hz1, hz2⟩
  clear hi hz0 hz1 hz2
  obtain ⟨W, eW⟩ : ∃ x, x = (w.alloc (.cells #[.slice na N nc, .slice fa F fc] 25)).alloc (.cells #[.slice ma ml mc, .slice xa G xc] 35) := ⟨_, rfl⟩
  have HW : Hid (W.heap.size = w.heap.size + 1 + 1 ∧ Below w.heap.size w W) := by subst eW; exact ⟨by simp, (box_below _ _).trans ((box_below _ _).mono (by simp))⟩
  have HBx : Hid (∀ u, Below W.heap.size W u → u.cell? ⟨w.heap.size, 0, none⟩ = some (.slice na N nc)) := fun u hu => by
    subst eW
    exact keep_alloc hu (cell_of_alloc rfl)
  have hS0 : Cw W (W.alloc (.cells (madeCells #[.bool false] N) 4)) N (fun _ => false) := ⟨(Below.refl _ _).alloc (Nat.le_refl _) _, World.rowIs_made W (.bool false) N 4⟩
  rw [eW] at hS0
  have HS0 : Hid (Cw W (((w.alloc (.cells #[.slice na N nc, .slice fa F fc] 25)).alloc (.cells #[.slice ma ml mc, .slice xa G xc] 35)).alloc (.cells (madeCells #[.bool false] N) 4)) N (fun _ => false)) := by rw [← eW] at hS0 ⊢; exact hS0
  clear hS0 eW
  go_enter Try.func24, Try.ntmps24
  go_wp2
  clear hmk
  go_loopw [21] (fun i wr => ∃ k : Nat, k ≤ G ∧ i = .int .i64 k ∧ Hid (∃ D, Cw W wr N D ∧ DoesIs N L S T k 0 D)) (fun i _ => G - (intOf i).toNat)
  case atStart => exact ⟨0, Nat.zero_le _, rfl, hid ⟨_, HS0.out, does_start⟩⟩
  case round =>
    obtain ⟨r, hr, rfl, hX⟩ := hrel
    clear HS0
    by_cases hlt : r < G
    · obtain rfl := ha (by omega)
      have hrz : (r : Int) < G := by omega
      obtain ⟨ea, ec, hck0, hfl⟩ := HC.out r hlt
      have HB : Hid (Below w.heap.size w wr) := by
        obtain ⟨D, hD, _⟩ := hX.out
        exact HW.out.2.trans (hD.below.mono HW.out.2.size)
      have hck : wr.cell? ⟨b, o + r, none⟩ = some (.slice ea (L r) ec) := by rw [HB.out.cell (p := ⟨b, o + r, none⟩) (World.block_lt_of_cell? _ _ hck0)]; exact hck0
      obtain ⟨eb, eo, hea, hec⟩ := hfl
      have HEC : Hid (∀ i, i < L r → w.cell? ⟨eb, eo + i * 2, none⟩ = some (.int .i64 (S r i)) ∧ w.cell? ⟨eb, eo + i * 2 + 1, none⟩ = some (.int .i64 (Z r i))) := hec
      have hLr := HL.out r hlt
      clear hck0 hec HB
      go_wp2
      go_loopw [27] (fun i wi => ∃ k : Nat, k ≤ L r ∧ i = .int .i64 k ∧ Hid (∃ D, Cw W wi N D ∧ DoesIs N L S T r k D)) (fun i _ => L r - (intOf i).toNat)
      case atStart => exact ⟨0, Nat.zero_le _, rfl, hX⟩
      case round =>
        obtain ⟨k, hk, rfl, hX2⟩ := hrel
        clear hX hck
        obtain ⟨D, hD, hDs⟩ := hX2.out
        have HCw : Hid (Cw W wr N D ∧ DoesIs N L S T r k D) := ⟨hD, hDs⟩
        have HB : Hid (Below w.heap.size w wr) := HW.out.2.trans (hD.below.mono HW.out.2.size)
        clear hX2 hD hDs
        by_cases hlk : k < L r
        · obtain rfl := hea (by omega)
          have hzk : (k : Int) < L r := by omega
          obtain ⟨h1, h2⟩ := Fls.at HEC.out HB.out hlk
          have hSr := HS.out r hlt k hlk
          obtain ⟨s, hs⟩ : ∃ s : Nat, S r k = s := ⟨(S r k).toNat, by omega⟩
          have hsl : s < ln := by omega
          have hslz : (s : Int) < ln := by omega
          have hTs := HT.out s hsl
          obtain ⟨x, hx⟩ : ∃ x : Nat, (T s).1 = x := ⟨(T s).1.toNat, by omega⟩
          have hxN : x < N := by omega
          have hxz : (x : Int) < N := by omega
          obtain rfl := hla (by omega)
          obtain ⟨g1, _, _⟩ := Sts.at HLC.out HB.out hsl
          rw [hs] at h1
          rw [hx] at g1
          have HX : Hid ((T (S r k).toNat).1 = x) := by show _ = _; rw [hs, Int.toNat_natCast, hx]
          generalize Z r k = z at *
          have hct := HCw.out.1.row.cell hxN
          have hcz := HCw.out.1.row.frozen x
          rw [HW.out.1] at hct hcz
          have hlb : lb < wr.heap.size := World.block_lt_of_cell? _ _ g1
          have hdb : w.heap.size + 1 + 1 < wr.heap.size := World.block_lt_of_cell? _ _ hct
          have HN : Hid (Cw W ((wr.setCell ⟨w.heap.size + 1 + 1, x, none⟩ (.bool true)).alloc (.cells #[.int .i64 s, .int .i64 z] 58)) N (mark D x)) := by
            have := (HCw.out.1.mark x).alloc (.cells #[.int .i64 s, .int .i64 z] 58)
            rw [HW.out.1] at this
            exact this
          clear hSr hs hTs hx
          generalize hdx : D x = dx at *
          clear hdx
          go_wp2
          go_roundw
          case rel => exact ⟨k + 1, by omega, by go_num, hid ⟨_, HN.out, does_step hlk HX.out HCw.out.2⟩⟩
          case measure => simp [intOf]; omega
        · obtain rfl : k = L r := by omega
          go_wp2
          go_roundw
          case rel => exact ⟨r + 1, by omega, by go_num, hid ⟨D, HCw.out.1, does_full HCw.out.2⟩⟩
          case measure => simp [intOf]; omega
    · obtain rfl : r = G := by omega
      obtain ⟨D, hD, hDs⟩ := hX.out
      obtain ⟨w3, e3⟩ : ∃ x, x = wr := ⟨_, rfl⟩
      subst e3
      have HD : Hid (Cw W w3 N D ∧ DoesIs N L S T r 0 D) := ⟨hD, hDs⟩
      have HB3 : Hid (Below w.heap.size w w3) := HW.out.2.trans (hD.below.mono HW.out.2.size)
      have hp0 := HBx.out w3 hD.below
      clear hX hD hDs
      go_wp2
      clear hp0
      go_loopw [12, 44] (fun v i wr => ∃ (k : Nat) (va : Option Addr) (vc : Nat), k ≤ N ∧ i = .int .i64 k ∧ v = .slice va (tally (ddX D K) 1 k) vc ∧ Hid (Below w3.heap.size w3 wr ∧ wr.ownsRow w3.heap.size 3 1 (.slice va (tally (ddX D K) 1 k) vc) (tally (ddX D K) 1 k) (vals (fl (ddX D K) 1 k)))) (fun _ i _ => N - (intOf i).toNat)
      case atStart => exact ⟨0, none, 0, Nat.zero_le _, rfl, rfl, hid ⟨Below.refl _ _, World.ownsRow_nil _ _ _ _⟩⟩
      case round =>
        obtain ⟨k, va, vc, hk, rfl, rfl, HV⟩ := hrel
        have HBw : Hid (Below w.heap.size w wr) := HB3.out.trans (HV.out.1.mono HB3.out.size)
        by_cases hlk : k < N
        · obtain rfl := hna (by omega)
          have hkz : (k : Int) < N := by omega
          have hfz := tally_le (ddX D K) 1 k
          have HSz : Hid (w3.heap.size ≤ wr.heap.size) := HV.out.1.size
          have hp0 : wr.cell? ⟨w.heap.size, 0, none⟩ = some (.slice (some ⟨nb, no, none⟩) N nc) := HBx.out wr (HD.out.1.below.trans (HV.out.1.mono HD.out.1.below.size))
          have hdc : wr.cell? ⟨w.heap.size + 1 + 1, k, none⟩ = some (.bool (D k)) := by
            have hq := HD.out.1.row.cell hlk
            rw [HW.out.1] at hq
            rw [HV.out.1.cell (p := ⟨w.heap.size + 1 + 1, k, none⟩) (World.block_lt_of_cell? _ _ hq)]
            exact hq
          have hkc : wr.cell? ⟨nb, no + k * 2 + 1, none⟩ = some (.int .i64 (K k)) := by
            have hq := (HNC.out k hlk).2
            rw [HBw.out.cell (p := ⟨nb, no + k * 2 + 1, none⟩) (World.block_lt_of_cell? _ _ hq)]
            exact hq
          have HMiss : Hid (D k = true ∨ K k = 1 → ddX D K k ≠ 1) := fun hh => by
            unfold ddX
            rw [if_pos hh]
            decide
          have HHit : Hid (¬ (D k = true ∨ K k = 1) → ddX D K k = 1) := fun hh => by
            unfold ddX
            rw [if_neg hh]
          cases hDk : D k
          · rw [hDk] at hdc
            by_cases hK : K k = 1
            · have HX : Hid (ddX D K k ≠ 1) := HMiss.out (Or.inr hK)
              rw [hK] at hkc
              clear hK hDk
              go_wp2
              go_roundw
              case rel => exact ⟨k + 1, va, vc, by omega, by go_num, by rw [tally_miss HX.out], hid ⟨HV.out.1, by have := HV.out.2; rw [tally_miss HX.out, fl_miss HX.out]; exact this⟩⟩
              case measure => simp [intOf]; omega
            · have HX : Hid (ddX D K k = 1) := HHit.out (fun hh => hh.elim (fun h => by rw [hDk] at h; cases h) hK)
              have hK' : (K k != 1) = true := by rw [bne_iff_ne]; exact hK
              generalize K k = kk at *
              clear hK hDk
              go_wp2_with (at_builtin; refine wpList_append_own_at _ rfl _ _ 26 rfl w3.heap.size 3 i0 (.int .i64 0) 1 8 Try.underlying26 HI.out.1 HI.out.2.1 HI.out.2.2.1 HI.out.2.2.2 rfl (by decide) _ _ _ rfl (HV.out.2.alloc _) ⟨wr.heap.size, 0, none⟩ 1 1 [.int .i64 k] rfl rfl (cell_one_new _ _ _) (ints_oneCell .i64 [(k : Int)]) (by unfold maxLen; omega) (by omega) (by have := HSz.out; simp; omega) ?_; intro v' w4 hown hgrow _ _; obtain ⟨⟨a4, c4, rfl⟩, H4⟩ := fl_step HV.out.1 HV.out.2 HX.out hown hgrow; clear hown hgrow)
              go_roundw
              case rel => exact ⟨k + 1, a4, c4, by omega, by go_num, by rw [tally_hit HX.out], hid ⟨H4.out.1, by have := H4.out.2; rw [tally_hit HX.out] at this ⊢; exact this⟩⟩
              case measure => simp [intOf]; omega
          · have HX : Hid (ddX D K k ≠ 1) := HMiss.out (Or.inl hDk)
            rw [hDk] at hdc
            clear hDk
            go_wp2
            go_roundw
            case rel => exact ⟨k + 1, va, vc, by omega, by go_num, by rw [tally_miss HX.out], hid ⟨HV.out.1, by have := HV.out.2; rw [tally_miss HX.out, fl_miss HX.out]; exact this⟩⟩
            case measure => simp [intOf]; omega
        · obtain rfl : k = N := by omega
          have HFin : Hid (wr.ownsRow w.heap.size 3 1 (.slice va (fl (ddX D K) 1 k).length vc) (fl (ddX D K) 1 k).length (vals (fl (ddX D K) 1 k))) := by
            have := owns_base HV.out.2 HB3.out.size
            rw [fl_len]
            exact this
          go_wp2
          go_ret
          exact ⟨⟨va, vc, fl (ddX D K) 1 k, by rw [fl_len]; rfl, ⟨D, HD.out.2, rfl⟩, HFin.out⟩, HBw.out⟩

end Go.Proofs.Ytjenkhphngiphaa

namespace Go.Proofs.Ytjenkhphngiphaa
open Go.RowKit

/-- The steps along a way: the first edge from each to the next one. -/
def stpL (L : Nat → Nat) (S Z : Nat → Nat → Int) (wy : Nat → Int) (k : Nat) : List Int := lst k (fun i => lsE (S (wy i).toNat) (Z (wy i).toNat) (wy (i + 1)) (L (wy i).toNat))
theorem stpL_len (L : Nat → Nat) (S Z : Nat → Nat → Int) (wy : Nat → Int) (k : Nat) : (stpL L S Z wy k).length = k := lst_len _ _

def tgB (m x : Nat) : Bool := decide (x = m)
theorem tgB_mark (m x : Nat) : mark (fun _ => false) m x = tgB m x := by
  unfold mark tgB
  by_cases e : x = m
  · rw [if_pos e, decide_eq_true e]
  · rw [if_neg e, decide_eq_false e]

/-- The nodes of the way. -/
def wyN (G : Nat) (L : Nat → Nat) (Z : Nat → Nat → Int) (m len : Nat) : Nat → Int := nd L Z 1 (fun _ => 0) (byLev G L Z (tgB m) len)

/-- The steps that lead there. -/
def ToIs (G : Nat) (L : Nat → Nat) (S Z : Nat → Nat → Int) (mk : Int) (l : List Int) : Prop :=
  (mk = -1 ∧ l = []) ∨ (∃ (m : Nat) (F : Nat → Int) (len : Nat), mk = m ∧ m < G ∧ Near G L Z (tgB m) 1 (fun _ => 0) F len ∧ l = stpL L S Z (wyN G L Z m len) len)

theorem ToIs.uniq {G : Nat} {L : Nat → Nat} {S Z : Nat → Nat → Int} {mk : Int} {l l' : List Int} (h : ToIs G L S Z mk l) (h' : ToIs G L S Z mk l') : l = l' := by
  rcases h with ⟨h1, h2⟩ | ⟨m, F, len, h1, h2, h3, h4⟩
  · rcases h' with ⟨g1, g2⟩ | ⟨m', F', len', g1, g2, g3, g4⟩
    · rw [h2, g2]
    · omega
  · rcases h' with ⟨g1, g2⟩ | ⟨m', F', len', g1, g2, g3, g4⟩
    · omega
    · have : m = m' := by omega
      subst this
      have := h3.same g3
      subst this
      rw [h4, g4]

theorem ToIs.len {G : Nat} {L : Nat → Nat} {S Z : Nat → Nat → Int} {mk : Int} {l : List Int} (h : ToIs G L S Z mk l) : l.length ≤ G := by
  rcases h with ⟨h1, rfl⟩ | ⟨m, F, len, h1, h2, h3, rfl⟩
  · exact Nat.zero_le _
  · rw [stpL_len]
    have := h3.lenG
    omega

/-- What a shortest way to m is in memory. -/
theorem way_there {G : Nat} {L : Nat → Nat} {Z : Nat → Nat → Int} {m : Nat} {w w' : World} {v : Value} {is : Bool} (hm : m < G) (hc : Comes G L Z 1 (fun _ => (0 : Int)) m) (h : WayIs G L Z (tgB m) 1 (fun _ => 0) w w' v is) :
    ∃ (a : Option Addr) (c len : Nat) (F : Nat → Int), is = true ∧ v = .slice a (len + 1) c ∧ Near G L Z (tgB m) 1 (fun _ => 0) F len ∧ Row w' a (len + 1) (wyN G L Z m len) := by
  obtain ⟨a, k, c, R, rfl, hr, h1 | h1⟩ := h.row
  · exact absurd hc (h1.2.2 m hm (by unfold tgB; rw [decide_eq_true rfl]))
  · obtain ⟨h2, F, len, h3, rfl, h4⟩ := h1
    exact ⟨a, c, len, F, h2, rfl, h3, hr.congr h4⟩

theorem way_node {G : Nat} {L : Nat → Nat} {Z : Nat → Nat → Int} {m len : Nat} {F : Nat → Int} (h : Near G L Z (tgB m) 1 (fun _ => 0) F len) {d : Nat} (hd : d ≤ len) : ∃ x : Nat, wyN G L Z m len d = (x : Int) ∧ x < G := by
  obtain ⟨_, x, h1, h2, _⟩ := h.nodes d hd
  exact ⟨x, h1, h2⟩

set_option maxHeartbeats 2000000 in
theorem stepsTo_any {ma xa ga : Option Addr} {ml mc G xc gc : Nat} {L : Nat → Nat} {S Z : Nat → Nat → Int} {w : World} (mk : Int) (hmk0 : mk = -1 ∨ (0 ≤ mk ∧ mk < G)) (hG : G ≤ 1000) (hx : Egs w xa G L S Z) (hg : Gr w ga G L Z) (hL : ∀ r, r < G → L r ≤ 1000) (he : errG G L Z = 0)
    (hall : ∀ m, m < G → Comes G L Z 1 (fun _ => (0 : Int)) m) :
    Calls Try.prog 25 #[.agg #[.slice ma ml mc, .slice xa G xc], .slice ga G gc, .int .i64 mk] w fun e w' => (∃ (a : Option Addr) (c : Nat) (l : List Int), e = .returned (.slice a l.length c) ∧ ToIs G L S Z mk l ∧ w'.ownsRow w.heap.size 3 1 (.slice a l.length c) l.length (vals l)) ∧ Below w.heap.size w w' := by
  obtain ⟨W, eW⟩ : ∃ x, x = w.alloc (.cells #[.slice ma ml mc, .slice xa G xc] 35) := ⟨_, rfl⟩
  have HW : Hid (Below w.heap.size w W ∧ W.heap.size = w.heap.size + 1) := by subst eW; exact ⟨box_below _ _, by simp⟩
  have HEW : Hid (w.alloc (.cells #[.slice ma ml mc, .slice xa G xc] 35) = W) := eW.symm
  have HBx : Hid (∀ u, Below W.heap.size W u → u.cell? ⟨w.heap.size, 1, none⟩ = some (.slice xa G xc)) := fun u hu => by
    subst eW
    exact new_alloc hu rfl
  by_cases hz : mk = -1
  · subst hz
    clear eW hx hg hL he hall hmk0
    go_enter Try.func25, Try.ntmps25
    go_wp2
    rw [HEW.out]
    go_ret
    exact ⟨⟨none, 0, [], rfl, Or.inl ⟨rfl, rfl⟩, World.ownsRow_nil _ _ _ _⟩, HW.out.1⟩
  · obtain ⟨m, rfl⟩ : ∃ m : Nat, mk = m := ⟨mk.toNat, by omega⟩
    have hmG : m < G := by omega
    have hmz : (m : Int) < G := by omega
    have hz' : ((m : Int) == -1) = false := by rw [beq_eq_false_iff_ne]; exact hz
    obtain ⟨i0, hi, hz0, hz1, hz2⟩ := info_parts Try.info3
    have HI : Hid (Try.prog.info? 3 = some i0 ∧ i0.zero = some (.int .i64 0) ∧ i0.size = 1 ∧ i0.bytes = 8) := ⟨hi, hz0, hz1, hz2⟩
    have hmk := run_make_row' (P := Try.prog) 59 4 (.bool false) 1 Try.underlying59 Try.info4 rfl .i64 .i64 G (by omega) (by omega)
    have hC0 : Cw W (W.alloc (.cells (madeCells #[.bool false] G) 4)) G (fun _ => false) := ⟨(Below.refl _ _).alloc (Nat.le_refl _) _, World.rowIs_made W (.bool false) G 4⟩
    obtain ⟨U1, eU1⟩ : ∃ x, x = W.alloc (.cells ((madeCells #[.bool false] G).setIfInBounds m (.bool true)) 4) := ⟨_, rfl⟩
    have hC1 : Cw W U1 G (tgB m) := by
      have := hC0.mark m
      rw [World.setCell_alloc_at _ _ _ _ _ rfl] at this
      rw [eU1]
      exact this.congr (fun x _ => tgB_mark m x)
    have hsz1 : U1.heap.size = w.heap.size + 1 + 1 := by subst eU1; simp [HW.out.2]
    obtain ⟨U, eU⟩ : ∃ x, x = U1.alloc (.cells #[.int .i64 0] 3) := ⟨_, rfl⟩
    have hCU : Cw W U G (tgB m) := by subst eU; exact hC1.alloc _
    have HCU : Hid (Cw W U G (tgB m)) := hCU
    have HBU : Hid (Below w.heap.size w U) := HW.out.1.trans (hCU.below.mono HW.out.1.size)
    have HEU : Hid (((w.alloc (.cells #[.slice ma ml mc, .slice xa G xc] 35)).alloc (.cells ((madeCells #[.bool false] G).setIfInBounds m (.bool true)) 4)).alloc (.cells #[.int .i64 0] 3) = U) := by
      show _ = _
      rw [eU, eU1, eW]
    have hct := hC0.row.cell hmG
    have hcz := hC0.row.frozen m
    rw [HW.out.2] at hct hcz
    have C1 : Hid (Calls Try.prog 49 #[.slice ga G gc, .slice (some ⟨w.heap.size + 1 + 1, 0, none⟩) 1 1, .slice (some ⟨w.heap.size + 1, 0, none⟩) G G] U fun e w' => ∃ (a : Option Addr) (c len : Nat) (F : Nat → Int), e = .returned (.tuple #[.slice a (len + 1) c, .bool true, .int .i64 0]) ∧ Below U.heap.size U w' ∧ Near G L Z (tgB m) 1 (fun _ => 0) F len ∧ Row w' a (len + 1) (wyN G L Z m len)) := by
      have hrow : Row U (some ⟨w.heap.size + 1 + 1, 0, none⟩) 1 (fun _ => (0 : Int)) := by
        rw [← hsz1]
        subst eU
        exact one_row U1 0
      have hrb : Rowb U (some ⟨w.heap.size + 1, 0, none⟩) G (tgB m) := by
        rw [← HW.out.2]
        exact rowb_of_rowIs hCU.row
      refine (way_ok ga G gc L Z _ 1 1 (fun _ => 0) _ G (tgB m) U (fun r hr => by have := hL r hr; omega) (by omega) (hg.below HBU.out) hrow hrb (errF_one (x := 0) he (by omega))).mono ?_
      rintro e w' ⟨v, is, rfl, hb, hw⟩
      obtain ⟨a, c, len, F, rfl, rfl, h3, h4⟩ := way_there hmG (hall m hmG) hw
      exact ⟨a, c, len, F, rfl, hb, h3, h4⟩
    have HX : Hid (Egs w xa G L S Z) := hx
    have HL : Hid (∀ r, r < G → L r ≤ 1000) := hL
    rw [eW] at hct hcz
    clear eW hx hg hL he hall hmk0 hz eU1 eU hC0 hC1 hCU hi hz0 hz1 hz2 hsz1
    go_enter Try.func25, Try.ntmps25
    go_wp2_with fail
    rw [HEU.out]
    refine C1.out.mono ?_
    rintro e w3 ⟨ya, yc, len, D, rfl, hb3, hN, hrow⟩
    have HN : Hid (Near G L Z (tgB m) 1 (fun _ => 0) D len) := hN
    have HY : Hid (Row w3 ya (len + 1) (wyN G L Z m len)) := hrow
    have HB3 : Hid (Below w.heap.size w w3 ∧ Below W.heap.size W w3) := ⟨HBU.out.trans (hb3.mono HBU.out.size), HCU.out.below.trans (hb3.mono HCU.out.below.size)⟩
    have hlG := hN.lenG
    obtain ⟨yb, yo, hya, hyc⟩ := HY.out
    obtain rfl := hya (by omega)
    have HYC : Hid (∀ i, i < len + 1 → w3.cell? ⟨yb, yo + i, none⟩ = some (.int .i64 (wyN G L Z m len i))) := hyc
    clear hb3 hN hrow hyc hya C1 hct hcz hmk HCU
    go_wp2
    go_loopw [11, 12] (fun v i wr => ∃ (k : Nat) (va : Option Addr) (vc : Nat), k ≤ len ∧ i = .int .i64 ((k : Int) + 1) ∧ v = .slice va k vc ∧ Hid (Below w3.heap.size w3 wr ∧ wr.ownsRow w3.heap.size 3 1 (.slice va k vc) k (vals (stpL L S Z (wyN G L Z m len) k)))) (fun _ i _ => len + 1 - (intOf i).toNat)
    case atStart => exact ⟨0, none, 0, Nat.zero_le _, rfl, rfl, hid ⟨Below.refl _ _, World.ownsRow_nil _ _ _ _⟩⟩
    case round =>
      obtain ⟨k, va, vc, hk, rfl, rfl, HV⟩ := hrel
      have HBw : Hid (Below w.heap.size w wr) := HB3.out.1.trans (HV.out.1.mono HB3.out.1.size)
      by_cases hlk : k < len
      · obtain ⟨x, hx, hxG⟩ := way_node HN.out (d := k) (by omega)
        obtain ⟨y, hy, hyG⟩ := way_node HN.out (d := k + 1) (by omega)
        have hxz : (x : Int) < G := by omega
        have hkz : (k : Int) + 1 < (len : Int) + 1 := by omega
        have hkz2 : (k : Int) < (len : Int) + 1 := by omega
        have hkz3 : (0 : Int) ≤ (k : Int) + 1 := by omega
        have hy0 : wr.cell? ⟨yb, yo + k, none⟩ = some (.int .i64 x) := by
          have hq := HYC.out k (by omega)
          rw [hx] at hq
          rw [HV.out.1.cell (p := ⟨yb, yo + k, none⟩) (World.block_lt_of_cell? _ _ hq)]
          exact hq
        have hy1 : wr.cell? ⟨yb, yo + (k + 1), none⟩ = some (.int .i64 y) := by
          have hq := HYC.out (k + 1) (by omega)
          rw [hy] at hq
          rw [HV.out.1.cell (p := ⟨yb, yo + (k + 1), none⟩) (World.block_lt_of_cell? _ _ hq)]
          exact hq
        have hb0 : wr.cell? ⟨w.heap.size, 1, none⟩ = some (.slice xa G xc) := HBx.out wr (HB3.out.2.trans (HV.out.1.mono HB3.out.2.size))
        obtain ⟨b, o, ha, hc⟩ := HX.out.below HBw.out
        obtain rfl := ha (by omega)
        obtain ⟨ea, ec, hck, hfl⟩ := hc x hxG
        have HFl : Hid (Fls wr ea (L x) (S x) (Z x)) := hfl
        have hLx := HL.out x hxG
        have CL : Hid (∀ u, Below wr.heap.size wr u → Calls Try.prog 50 #[.slice ea (L x) ec, .int .i64 y] u fun e w' => e = .returned (.int .i64 (lsE (S x) (Z x) y (L x))) ∧ Below u.heap.size u w') := fun u hu => leastStep_any _ hLx (HFl.out.below hu)
        have HQ : Hid (stpL L S Z (wyN G L Z m len) k ++ [lsE (S x) (Z x) y (L x)] = stpL L S Z (wyN G L Z m len) (k + 1)) := by
          show _ = _
          unfold stpL
          rw [lst_add, hx, hy, Int.toNat_natCast]
        generalize lsE (S x) (Z x) y (L x) = q at *
        generalize L x = lx at *
        have HSz : Hid (w3.heap.size ≤ wr.heap.size) := HV.out.1.size
        have hwrap : IntKind.i64.wrap (k : Int) = (k : Int) := by rw [IntKind.wrap_i64]; omega
        clear hx hy ha hc hfl HYC HX
        go_wp2
        go_region_law
          (first
            | (go_simp; go_at_call 50; refine (CL.out _ ?_).mono ?_; (exact below_drew_iff.2 (Below.refl _ _)); rintro e w5 ⟨rfl, hb5⟩; have hb5' : Below wr.heap.size wr w5 := (below_drew_iff.2 (Below.refl _ _)).trans hb5; have HO5 : w5.ownsRow w3.heap.size 3 1 (.slice va k vc) k (vals (stpL L S Z (wyN G L Z m len) k)) := below_ownsRow HV.out.2 hb5'; have HB5 : Below w3.heap.size w3 w5 := HV.out.1.trans (hb5'.mono HV.out.1.size); dsimp only)
            | (refine step_append_lies _ (by rfl) _ _ _ (by rfl) w3.heap.size 3 i0 _ 1 8 Try.underlying26 HI.out.1 HI.out.2.1 HI.out.2.2.1 HI.out.2.2.2 rfl (by omega) (.slice va k vc) k (vals (stpL L S Z (wyN G L Z m len) k)) (by rfl) (HO5.alloc _)
                ⟨w5.heap.size, 0, none⟩ 1 1 [.int .i64 q] (by rfl) (by rfl) (cell_one_new _ _ _) (ints_oneCell .i64 [q]) (by omega) (by unfold maxLen; omega) (by omega) (by have := hb5'.size; have := HSz.out; simp; omega) (w5.heap.size + 1) (by simp) ?_; intro gg cap w6 hown hgrow _ _; obtain ⟨_, H6⟩ := leastWay_step HB5 HO5 hown hgrow))
        all_goals
          clear hown hgrow
          go_wp2
          go_roundw
          case rel => exact ⟨k + 1, _, _, by omega, by go_num, rfl, hid ⟨H6.out.1, by rw [← HQ.out]; exact H6.out.2⟩⟩
          case measure => simp [intOf]; omega
      · obtain rfl : k = len := by omega
        have hkz : ¬ ((k : Int) + 1 < (k : Int) + 1) := by omega
        have HFin : Hid (wr.ownsRow w.heap.size 3 1 (.slice va (stpL L S Z (wyN G L Z m k) k).length vc) (stpL L S Z (wyN G L Z m k) k).length (vals (stpL L S Z (wyN G L Z m k) k))) := by
          have := owns_base HV.out.2 HB3.out.1.size
          rw [stpL_len]
          exact this
        go_wp2
        go_ret
        exact ⟨⟨va, vc, _, by rw [stpL_len]; rfl, Or.inr ⟨m, D, k, rfl, hmG, HN.out, rfl⟩, HFin.out⟩, HBw.out⟩

end Go.Proofs.Ytjenkhphngiphaa
