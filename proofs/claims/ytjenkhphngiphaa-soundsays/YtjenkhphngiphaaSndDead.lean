/- dead: the nodes of which no edge has a step. -/
import Derived.Test.YtjenkhphngiphaaSndLeafJ
import Derived.Test.YtjenkhphngiphaaRefComes
import Derived.Test.YtjenkhphngiphaaStepsJ
namespace Go.Proofs.Ytjenkhphngiphaa
open Go.RowKit

theorem Cw.alloc {w wr : World} {G : Nat} {O : Nat → Bool} (h : Cw w wr G O) (o : Obj) : Cw w (wr.alloc o) G O := ⟨h.below.alloc h.below.size o, h.row.alloc o⟩

/-- Which nodes have a step at an edge: those of the markings below r, and the first k of the r-th one. -/
def DoesIs (N : Nat) (L : Nat → Nat) (S : Nat → Nat → Int) (T : Nat → St3) (r k : Nat) (D : Nat → Bool) : Prop :=
  ∀ i, i < N → (D i = true ↔ ∃ p q, q < L p ∧ (p < r ∨ (p = r ∧ q < k)) ∧ (T (S p q).toNat).1 = (i : Int))

section
variable {N : Nat} {L : Nat → Nat} {S : Nat → Nat → Int} {T : Nat → St3} {r k : Nat} {D : Nat → Bool}

theorem does_start : DoesIs N L S T 0 0 (fun _ => false) := fun i _ => ⟨fun h => (by cases h), fun ⟨p, q, _, h, _⟩ => (by omega)⟩
theorem does_step {x : Nat} (hk : k < L r) (hx : (T (S r k).toNat).1 = x) (h : DoesIs N L S T r k D) : DoesIs N L S T r (k + 1) (mark D x) := fun i hi => by
  unfold mark
  constructor
  · intro hD
    by_cases e : i = x
    · subst e
      exact ⟨r, k, hk, Or.inr ⟨rfl, by omega⟩, hx⟩
    · rw [if_neg e] at hD
      obtain ⟨p, q, h1, h2, h3⟩ := (h i hi).1 hD
      exact ⟨p, q, h1, by omega, h3⟩
  · rintro ⟨p, q, h1, h2, h3⟩
    by_cases e : i = x
    · rw [if_pos e]
    · rw [if_neg e]
      refine (h i hi).2 ⟨p, q, h1, ?_, h3⟩
      rcases h2 with h2 | ⟨h2, h4⟩
      · exact Or.inl h2
      · subst h2
        by_cases e2 : q = k
        · subst e2
          rw [hx] at h3
          omega
        · exact Or.inr ⟨rfl, by omega⟩
theorem does_full (h : DoesIs N L S T r (L r) D) : DoesIs N L S T (r + 1) 0 D := fun i hi => by
  rw [h i hi]
  constructor
  · rintro ⟨p, q, h1, h2, h3⟩
    exact ⟨p, q, h1, by omega, h3⟩
  · rintro ⟨p, q, h1, h2, h3⟩
    refine ⟨p, q, h1, ?_, h3⟩
    by_cases e : p = r
    · subst e
      exact Or.inr ⟨rfl, h1⟩
    · exact Or.inl (by omega)
end

def ddX (D : Nat → Bool) (K : Nat → Int) (i : Nat) : Int := if D i = true ∨ K i = 1 then 0 else 1

/-- The nodes that never do anything. -/
def DeadIs (N G : Nat) (L : Nat → Nat) (S : Nat → Nat → Int) (T : Nat → St3) (K : Nat → Int) (l : List Int) : Prop := ∃ D, DoesIs N L S T G 0 D ∧ l = fl (ddX D K) 1 N

theorem fl_same {X Y : Nat → Int} {x : Int} : ∀ {n}, (∀ i, i < n → X i = Y i) → fl X x n = fl Y x n
  | 0, _ => rfl
  | n + 1, h => by
    have := fl_same (x := x) (n := n) (fun i hi => h i (by omega))
    simp only [fl, this, h n (by omega)]

theorem DeadIs.uniq {N G : Nat} {L : Nat → Nat} {S : Nat → Nat → Int} {T : Nat → St3} {K : Nat → Int} {l l' : List Int} (h : DeadIs N G L S T K l) (h' : DeadIs N G L S T K l') : l = l' := by
  obtain ⟨D, h1, rfl⟩ := h
  obtain ⟨D', h1', rfl⟩ := h'
  refine fl_same (fun i hi => ?_)
  have : D i = D' i := by rw [Bool.eq_iff_iff, h1 i hi, h1' i hi]
  unfold ddX
  rw [this]

set_option maxHeartbeats 1000000 in
theorem dead_any {na fa ma xa la : Option Addr} {N nc F fc ml mc G xc ln lc : Nat} {M : Nat → ByteArray} {K : Nat → Int} {L : Nat → Nat} {S Z : Nat → Nat → Int} {T : Nat → St3} {w : World} (hN : N ≤ 1000) (hG : G ≤ 1000) (hln : ln ≤ 1000) (hL : ∀ r, r < G → L r ≤ 1000) (hn : Nds w na N M K) (h : Egs w xa G L S Z) (hl : Sts w la ln T)
    (hS : ∀ r, r < G → ∀ i, i < L r → 0 ≤ S r i ∧ S r i < ln) (hT : ∀ s, s < ln → 0 ≤ (T s).1 ∧ (T s).1 < N) :
    Calls Try.prog 24 #[.agg #[.slice na N nc, .slice fa F fc], .slice la ln lc, .agg #[.slice ma ml mc, .slice xa G xc]] w fun e w' => (∃ (a : Option Addr) (c : Nat) (l : List Int), e = .returned (.slice a l.length c) ∧ DeadIs N G L S T K l ∧ w'.ownsRow w.heap.size 3 1 (.slice a l.length c) l.length (vals l)) ∧ Below w.heap.size w w' := by
  obtain ⟨b, o, ha, hc⟩ := h
  obtain ⟨lb, lo, hla, hlc⟩ := hl
  obtain ⟨nb, no, hna, hnc⟩ := hn
  have HC : Hid (∀ r, r < G → ∃ a c, w.cell? ⟨b, o + r, none⟩ = some (.slice a (L r) c) ∧ Fls w a (L r) (S r) (Z r)) := hc
  have HLC : Hid (∀ i, i < ln → w.cell? ⟨lb, lo + i * 3, none⟩ = some (.int .i64 (T i).1) ∧ w.cell? ⟨lb, lo + i * 3 + 1, none⟩ = some (.int .i64 (T i).2.1) ∧ w.cell? ⟨lb, lo + i * 3 + 2, none⟩ = some (.int .i64 (T i).2.2)) := hlc
  have HNC : Hid (∀ i, i < N → w.cell? ⟨nb, no + i * 2, none⟩ = some (.string (M i)) ∧ w.cell? ⟨nb, no + i * 2 + 1, none⟩ = some (.int .i64 (K i))) := hnc
  have HL : Hid (∀ r, r < G → L r ≤ 1000) := hL
  have HS : Hid (∀ r, r < G → ∀ i, i < L r → 0 ≤ S r i ∧ S r i < ln) := hS
  have HT : Hid (∀ s, s < ln → 0 ≤ (T s).1 ∧ (T s).1 < N) := hT
  clear hc hlc hnc hL hS hT
  have hmk := run_make_row' (P := Try.prog) 59 4 (.bool false) 1 Try.underlying59 Try.info4 rfl .i64 .i64 N (by omega) (by omega)
  obtain ⟨i0, hi, hz0, hz1, hz2⟩ := info_parts Try.info3
  have HI : Hid (Try.prog.info? 3 = some i0 ∧ i0.zero = some (.int .i64 0) ∧ i0.size = 1 ∧ i0.bytes = 8) := ⟨hi, hz0, hz1, hz2⟩
  clear hi hz0 hz1 hz2
  obtain ⟨W, eW⟩ : ∃ x, x = (w.alloc (.cells #[.slice na N nc, .slice fa F fc] 25)).alloc (.cells #[.slice ma ml mc, .slice xa G xc] 35) := ⟨_, rfl⟩
  have HW : Hid (W.heap.size = w.heap.size + 1 + 1 ∧ Below w.heap.size w W) := by subst eW; exact ⟨by simp, (box_below _ _).trans ((box_below _ _).mono (by simp))⟩
  have HBx : Hid (∀ u, Below W.heap.size W u → u.cell? ⟨w.heap.size, 0, none⟩ = some (.slice na N nc)) := fun u hu => by
    subst eW
    exact keep_alloc hu (cell_of_alloc rfl)
  have hS0 : Cw W (W.alloc (.cells (madeCells #[.bool false] N) 4)) N (fun _ => false) := ⟨(Below.refl _ _).alloc (Nat.le_refl _) _, World.rowIs_made W (.bool false) N 4⟩
  rw [eW] at hS0
  have HS0 : Hid (Cw W (((w.alloc (.cells #[.slice na N nc, .slice fa F fc] 25)).alloc (.cells #[.slice ma ml mc, .slice xa G xc] 35)).alloc (.cells (madeCells #[.bool false] N) 4)) N (fun _ => false)) := by rw [← eW] at hS0 ⊢; exact hS0
  clear hS0 eW
  go_enter Try.func24, Try.ntmps24
  go_wp2
  clear hmk
  go_loopw [21] (fun i wr => ∃ k : Nat, k ≤ G ∧ i = .int .i64 k ∧ Hid (∃ D, Cw W wr N D ∧ DoesIs N L S T k 0 D)) (fun i _ => G - (intOf i).toNat)
  case atStart => exact ⟨0, Nat.zero_le _, rfl, hid ⟨_, HS0.out, does_start⟩⟩
  case round =>
    obtain ⟨r, hr, rfl, hX⟩ := hrel
    clear HS0
    by_cases hlt : r < G
    · obtain rfl := ha (by omega)
      have hrz : (r : Int) < G := by omega
      obtain ⟨ea, ec, hck0, hfl⟩ := HC.out r hlt
      have HB : Hid (Below w.heap.size w wr) := by
        obtain ⟨D, hD, _⟩ := hX.out
        exact HW.out.2.trans (hD.below.mono HW.out.2.size)
      have hck : wr.cell? ⟨b, o + r, none⟩ = some (.slice ea (L r) ec) := by rw [HB.out.cell (p := ⟨b, o + r, none⟩) (World.block_lt_of_cell? _ _ hck0)]; exact hck0
      obtain ⟨eb, eo, hea, hec⟩ := hfl
      have HEC : Hid (∀ i, i < L r → w.cell? ⟨eb, eo + i * 2, none⟩ = some (.int .i64 (S r i)) ∧ w.cell? ⟨eb, eo + i * 2 + 1, none⟩ = some (.int .i64 (Z r i))) := hec
      have hLr := HL.out r hlt
      clear hck0 hec HB
      go_wp2
      go_loopw [27] (fun i wi => ∃ k : Nat, k ≤ L r ∧ i = .int .i64 k ∧ Hid (∃ D, Cw W wi N D ∧ DoesIs N L S T r k D)) (fun i _ => L r - (intOf i).toNat)
      case atStart => exact ⟨0, Nat.zero_le _, rfl, hX⟩
      case round =>
        obtain ⟨k, hk, rfl, hX2⟩ := hrel
        clear hX hck
        obtain ⟨D, hD, hDs⟩ := hX2.out
        have HCw : Hid (Cw W wr N D ∧ DoesIs N L S T r k D) := ⟨hD, hDs⟩
        have HB : Hid (Below w.heap.size w wr) := HW.out.2.trans (hD.below.mono HW.out.2.size)
        clear hX2 hD hDs
        by_cases hlk : k < L r
        · obtain rfl := hea (by omega)
          have hzk : (k : Int) < L r := by omega
          obtain ⟨h1, h2⟩ := Fls.at HEC.out HB.out hlk
          have hSr := HS.out r hlt k hlk
          obtain ⟨s, hs⟩ : ∃ s : Nat, S r k = s := ⟨(S r k).toNat, by omega⟩
          have hsl : s < ln := by omega
          have hslz : (s : Int) < ln := by omega
          have hTs := HT.out s hsl
          obtain ⟨x, hx⟩ : ∃ x : Nat, (T s).1 = x := ⟨(T s).1.toNat, by omega⟩
          have hxN : x < N := by omega
          have hxz : (x : Int) < N := by omega
          obtain rfl := hla (by omega)
          obtain ⟨g1, _, _⟩ := Sts.at HLC.out HB.out hsl
          rw [hs] at h1
          rw [hx] at g1
          have HX : Hid ((T (S r k).toNat).1 = x) := by show _ = _; rw [hs, Int.toNat_natCast, hx]
          generalize Z r k = z at *
          have hct := HCw.out.1.row.cell hxN
          have hcz := HCw.out.1.row.frozen x
          rw [HW.out.1] at hct hcz
          have hlb : lb < wr.heap.size := World.block_lt_of_cell? _ _ g1
          have hdb : w.heap.size + 1 + 1 < wr.heap.size := World.block_lt_of_cell? _ _ hct
          have HN : Hid (Cw W ((wr.setCell ⟨w.heap.size + 1 + 1, x, none⟩ (.bool true)).alloc (.cells #[.int .i64 s, .int .i64 z] 58)) N (mark D x)) := by
            have := (HCw.out.1.mark x).alloc (.cells #[.int .i64 s, .int .i64 z] 58)
            rw [HW.out.1] at this
            exact this
          clear hSr hs hTs hx
          generalize hdx : D x = dx at *
          clear hdx
          go_wp2
          go_roundw
          case rel => exact ⟨k + 1, by omega, by go_num, hid ⟨_, HN.out, does_step hlk HX.out HCw.out.2⟩⟩
          case measure => simp [intOf]; omega
        · obtain rfl : k = L r := by omega
          go_wp2
          go_roundw
          case rel => exact ⟨r + 1, by omega, by go_num, hid ⟨D, HCw.out.1, does_full HCw.out.2⟩⟩
          case measure => simp [intOf]; omega
    · obtain rfl : r = G := by omega
      obtain ⟨D, hD, hDs⟩ := hX.out
      obtain ⟨w3, e3⟩ : ∃ x, x = wr := ⟨_, rfl⟩
      subst e3
      have HD : Hid (Cw W w3 N D ∧ DoesIs N L S T r 0 D) := ⟨hD, hDs⟩
      have HB3 : Hid (Below w.heap.size w w3) := HW.out.2.trans (hD.below.mono HW.out.2.size)
      have hp0 := HBx.out w3 hD.below
      clear hX hD hDs
      go_wp2
      clear hp0
      go_loopw [12, 44] (fun v i wr => ∃ (k : Nat) (va : Option Addr) (vc : Nat), k ≤ N ∧ i = .int .i64 k ∧ v = .slice va (tally (ddX D K) 1 k) vc ∧ Hid (Below w3.heap.size w3 wr ∧ wr.ownsRow w3.heap.size 3 1 (.slice va (tally (ddX D K) 1 k) vc) (tally (ddX D K) 1 k) (vals (fl (ddX D K) 1 k)))) (fun _ i _ => N - (intOf i).toNat)
      case atStart => exact ⟨0, none, 0, Nat.zero_le _, rfl, rfl, hid ⟨Below.refl _ _, World.ownsRow_nil _ _ _ _⟩⟩
      case round =>
        obtain ⟨k, va, vc, hk, rfl, rfl, HV⟩ := hrel
        have HBw : Hid (Below w.heap.size w wr) := HB3.out.trans (HV.out.1.mono HB3.out.size)
        by_cases hlk : k < N
        · obtain rfl := hna (by omega)
          have hkz : (k : Int) < N := by omega
          have hfz := tally_le (ddX D K) 1 k
          have HSz : Hid (w3.heap.size ≤ wr.heap.size) := HV.out.1.size
          have hp0 : wr.cell? ⟨w.heap.size, 0, none⟩ = some (.slice (some ⟨nb, no, none⟩) N nc) := HBx.out wr (HD.out.1.below.trans (HV.out.1.mono HD.out.1.below.size))
          have hdc : wr.cell? ⟨w.heap.size + 1 + 1, k, none⟩ = some (.bool (D k)) := by
            have hq := HD.out.1.row.cell hlk
            rw [HW.out.1] at hq
            rw [HV.out.1.cell (p := ⟨w.heap.size + 1 + 1, k, none⟩) (World.block_lt_of_cell? _ _ hq)]
            exact hq
          have hkc : wr.cell? ⟨nb, no + k * 2 + 1, none⟩ = some (.int .i64 (K k)) := by
            have hq := (HNC.out k hlk).2
            rw [HBw.out.cell (p := ⟨nb, no + k * 2 + 1, none⟩) (World.block_lt_of_cell? _ _ hq)]
            exact hq
          have HMiss : Hid (D k = true ∨ K k = 1 → ddX D K k ≠ 1) := fun hh => by
            unfold ddX
            rw [if_pos hh]
            decide
          have HHit : Hid (¬ (D k = true ∨ K k = 1) → ddX D K k = 1) := fun hh => by
            unfold ddX
            rw [if_neg hh]
          cases hDk : D k
          · rw [hDk] at hdc
            by_cases hK : K k = 1
            · have HX : Hid (ddX D K k ≠ 1) := HMiss.out (Or.inr hK)
              rw [hK] at hkc
              clear hK hDk
              go_wp2
              go_roundw
              case rel => exact ⟨k + 1, va, vc, by omega, by go_num, by rw [tally_miss HX.out], hid ⟨HV.out.1, by have := HV.out.2; rw [tally_miss HX.out, fl_miss HX.out]; exact this⟩⟩
              case measure => simp [intOf]; omega
            · have HX : Hid (ddX D K k = 1) := HHit.out (fun hh => hh.elim (fun h => by rw [hDk] at h; cases h) hK)
              have hK' : (K k != 1) = true := by rw [bne_iff_ne]; exact hK
              generalize K k = kk at *
              clear hK hDk
              go_wp2_with (at_builtin; refine wpList_append_own_at _ rfl _ _ 26 rfl w3.heap.size 3 i0 (.int .i64 0) 1 8 Try.underlying26 HI.out.1 HI.out.2.1 HI.out.2.2.1 HI.out.2.2.2 rfl (by decide) _ _ _ rfl (HV.out.2.alloc _) ⟨wr.heap.size, 0, none⟩ 1 1 [.int .i64 k] rfl rfl (cell_one_new _ _ _) (ints_oneCell .i64 [(k : Int)]) (by unfold maxLen; omega) (by omega) (by have := HSz.out; simp; omega) ?_; intro v' w4 hown hgrow _ _; obtain ⟨⟨a4, c4, rfl⟩, H4⟩ := fl_step HV.out.1 HV.out.2 HX.out hown hgrow; clear hown hgrow)
              go_roundw
              case rel => exact ⟨k + 1, a4, c4, by omega, by go_num, by rw [tally_hit HX.out], hid ⟨H4.out.1, by have := H4.out.2; rw [tally_hit HX.out] at this ⊢; exact this⟩⟩
              case measure => simp [intOf]; omega
          · have HX : Hid (ddX D K k ≠ 1) := HMiss.out (Or.inl hDk)
            rw [hDk] at hdc
            clear hDk
            go_wp2
            go_roundw
            case rel => exact ⟨k + 1, va, vc, by omega, by go_num, by rw [tally_miss HX.out], hid ⟨HV.out.1, by have := HV.out.2; rw [tally_miss HX.out, fl_miss HX.out]; exact this⟩⟩
            case measure => simp [intOf]; omega
        · obtain rfl : k = N := by omega
          have HFin : Hid (wr.ownsRow w.heap.size 3 1 (.slice va (fl (ddX D K) 1 k).length vc) (fl (ddX D K) 1 k).length (vals (fl (ddX D K) 1 k))) := by
            have := owns_base HV.out.2 HB3.out.size
            rw [fl_len]
            exact this
          go_wp2
          go_ret
          exact ⟨⟨va, vc, fl (ddX D K) 1 k, by rw [fl_len]; rfl, ⟨D, HD.out.2, rfl⟩, HFin.out⟩, HBw.out⟩

end Go.Proofs.Ytjenkhphngiphaa
