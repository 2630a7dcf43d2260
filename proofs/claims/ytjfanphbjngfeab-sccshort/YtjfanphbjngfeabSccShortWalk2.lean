/- The law SccShort, its walk. -/
import Derived.Test.YtjfanphbjngfeabSccShortWalk
namespace Go.Proofs.Ytjfanphbjngfeab
open Go.RowKit

/-- Does one come to a target among the first k nodes? -/
def Seen (R : Nat → Bool) (T : Nat → Bool) (k : Nat) (m : Bool) : Prop := m = true ↔ ∃ x, x < k ∧ R x = true ∧ T x = true

theorem Seen.next {R T : Nat → Bool} {k : Nat} {m : Bool} (h : Seen R T k m) : Seen R T (k + 1) (m || (R k && T k)) := by
  unfold Seen at h ⊢
  rw [Bool.or_eq_true, Bool.and_eq_true, h]
  constructor
  · rintro (⟨x, hx, hh⟩ | hh)
    · exact ⟨x, by omega, hh⟩
    · exact ⟨k, by omega, hh⟩
  · rintro ⟨x, hx, hh⟩
    by_cases e : x = k
    · subst e; exact Or.inr hh
    · exact Or.inl ⟨x, by omega, hh⟩

theorem errF_one' {G : Nat} {L : Nat → Nat} {Z : Nat → Nat → Int} (h : errG G L Z = 0) {a : Nat} (ha : a < G) : errF G L Z 1 (fun _ => (a : Int)) = 0 := by
  unfold errF
  rw [if_pos h, if_pos (allIn_yes (fun i _ => ⟨by omega, by omega⟩))]

theorem Row.from {w : World} {b o k : Nat} {R : Nat → Int} (h : ∀ i, i < k → w.cell? ⟨b, o + i, none⟩ = some (.int .i64 (R i))) (j : Nat) (hj : j ≤ k) : Row w (some ⟨b, o + j, none⟩) (k - j) (fun i => R (j + i)) :=
  ⟨b, o + j, fun _ => rfl, fun i hi => by rw [Nat.add_assoc]; exact h (j + i) (by omega)⟩

/-- A way's slice has room for what it holds. -/
theorem WayIs.cap {G : Nat} {L : Nat → Nat} {Z : Nat → Nat → Int} {T : Nat → Bool} {n : Nat} {Y : Nat → Int} {w w' : World} {a : Option Addr} {k c : Nat} {is : Bool} (h : WayIs G L Z T n Y w w' (.slice a k c) is) : k ≤ c := by
  rcases h with ⟨_, e, _⟩ | ⟨_, F, len, _, h3⟩
  · cases e; exact Nat.le_refl _
  · rcases h3.2 with ⟨e, h0⟩ | ⟨g, cap, cur, e, hr⟩
    · cases e; omega
    · cases e
      omega

theorem cells_at {w w' : World} {b o k : Nat} {R : Nat → Int} (h : ∀ i, i < k → w.cell? ⟨b, o + i, none⟩ = some (.int .i64 (R i))) (hb : Below w.heap.size w w') : ∀ i, i < k → w'.cell? ⟨b, o + i, none⟩ = some (.int .i64 (R i)) := fun i hi => by
  rw [hb.cell (p := ⟨b, o + i, none⟩) (World.block_lt_of_cell? _ _ (h i hi))]
  exact h i hi

set_option maxHeartbeats 2000000 in
set_option maxRecDepth 20000 in
theorem sccShort_walk (ga : Option Addr) (G gc : Nat) (L : Nat → Nat) (Z : Nat → Nat → Int) (a : Option Addr) (n c : Nat) (Y : Nat → Int) (ta : Option Addr) (tn tc : Nat) (T : Nat → Bool) (w : World)
    (hL : ∀ r, r < G → L r ≤ 140737488355328) (hn : n ≤ 140737488355328) (h : Gr w ga G L Z) (ha : Row w a n Y) (ht : Rowb w ta tn T) :
    Calls Try.prog 3 #[.slice ga G gc, .slice a n c, .slice ta tn tc] w fun e w' => e = .returned (.bool true) ∧ Below w.heap.size w w' := by
  have HL : Hid (∀ r, r < G → L r ≤ 140737488355328) := hL
  have HG : Hid (Gr w ga G L Z) := h
  have HA : Hid (Row w a n Y) := ha
  have HT : Hid (Rowb w ta tn T) := ht
  clear hL h ha ht
  go_enter Try.func3, Try.ntmps3
  go_wp2_with fail
  refine (way_ok (some ⟨w.heap.size + 1 + 1 + 1, 0, none⟩) 3 3 litSL litSZ (some ⟨w.heap.size + 1 + 1 + 1 + 1, 0, none⟩) 1 1 (fun _ => 0) (some ⟨w.heap.size + 1 + 1 + 1 + 1 + 1, 0, none⟩) 3 litST _ (fun r hr => by unfold litSL; split <;> (try split) <;> omega) (by omega) (litS_gr w) (litS_row w) (litS_rowb w) litS_err).mono ?_
  rintro e w1 ⟨v1, is1, rfl, hbel1, hW1⟩
  obtain ⟨rfl, a1, c1, rfl, hr1⟩ := litS_way hW1
  have HW1 : Hid (Below w.heap.size w w1) := (below_litS w).trans (hbel1.mono (below_litS w).size)
  have HR1 : Hid (Row w1 a1 2 (fun i => if i = 0 then 0 else 2)) := hr1
  clear hbel1 hW1 hr1
  go_wp2_with fail
  have HR2 : Hid (Row (w1.alloc (.cells #[.int .i64 0, .int .i64 2] 3)) (some ⟨w1.heap.size, 0, none⟩) 2 (fun i => if i = 0 then 0 else 2)) := row_of_rowIs (rowIs_lit w1 _ 3 _ 2 _ rfl rfl two_int)
  have C6 := equal_any a1 (some ⟨w1.heap.size, 0, none⟩) 2 c1 2 2 _ _ _ (by omega) (HR1.out.below ((Below.refl _ _).alloc (Nat.le_refl _) _)) HR2.out
  rw [same_yes rfl (fun _ _ => rfl)] at C6
  refine C6.mono ?_
  rintro e w3 ⟨rfl, q, hw3⟩
  have HW3 : Hid (Below w.heap.size w w3) := by rw [hw3]; exact below_drewN' (HW1.out.alloc HW1.out.size _) q
  clear hw3 C6 HR1 HR2 HW1
  by_cases hE : errW G L Z n Y tn = 0
  · obtain ⟨hF, rfl⟩ := errW_zero hE
    have HF : Hid (errF tn L Z n Y = 0) := hF
    have HE : Hid (errG tn L Z = 0) := (errF_zero hF).1
    clear hF hE
    go_wp2_with fail
    refine (way_ok ga tn gc L Z a n c Y ta tc T _ HL.out hn (HG.out.below HW3.out) (HA.out.below HW3.out) (HT.out.below HW3.out) HF.out).mono ?_
    rintro e w4 ⟨v4, is4, rfl, hbel4, hW4⟩
    have HW4 : Hid (Below w.heap.size w w4) := HW3.out.trans (hbel4.mono HW3.out.size)
    obtain ⟨a4, k4, c4, R4, rfl, hr4, hk4⟩ := hW4.row
    have hkc := hW4.cap
    have HR4 : Hid (Row w4 a4 k4 R4) := hr4
    have HK4 : Hid ((is4 = false ∧ k4 = 0 ∧ ∀ x, x < tn → T x = true → ¬ Comes tn L Z n Y x) ∨ (is4 = true ∧ ∃ (F : Nat → Int) (len : Nat), Near tn L Z T n Y F len ∧ k4 = len + 1 ∧ ∀ i, i < len + 1 → R4 i = nd L Z n Y (byLev tn L Z T len) i)) := hk4
    clear hbel4 hW4 hr4 hk4 HW3
    by_cases hS : tn ≤ 120
    · go_wp2_with fail
      have C23 := small_any ga tn gc w4
      rw [decide_eq_true hS] at C23
      refine C23.mono ?_
      rintro e w4' ⟨rfl, rfl⟩
      clear C23
      go_wp2_with fail
      refine (reach_ok ga tn gc L Z a n c Y _ HL.out hn (HG.out.below HW4.out) (HA.out.below HW4.out) HF.out).mono ?_
      rintro e w5 ⟨b5, R5, rfl, hbel5, hb5, hrow5, hR5⟩
      have HW5 : Hid (Below w.heap.size w w5) := HW4.out.trans (hbel5.mono HW4.out.size)
      have HR45 : Hid (Row w5 a4 k4 R4) := HR4.out.below hbel5
      have HX5 : Hid (w5.rowIs b5 4 tn (fun x => .bool (R5 x))) := hrow5
      have HR5 : Hid (∀ x, x < tn → (R5 x = true ↔ Comes tn L Z n Y x)) := hR5
      have HT5 : Hid (Rowb w5 ta tn T) := HT.out.below HW5.out
      clear hbel5 hb5 hrow5 hR5 HW4 HR4
      go_wp2
      go_loop [15, 80] (fun co i => ∃ k : Nat, k ≤ tn ∧ i = .int .i64 k ∧ Hid (∃ m : Bool, co = .bool m ∧ Seen R5 T k m)) (fun _ i => tn - (intOf i).toNat)
      case atStart => exact ⟨0, Nat.zero_le _, rfl, hid ⟨false, rfl, ⟨fun e => (by cases e), fun ⟨x, hx, _⟩ => by omega⟩⟩⟩
      case round =>
        obtain ⟨k, hk, rfl, HM⟩ := hrel
        obtain ⟨m, rfl, hM⟩ := HM.out
        clear HM
        by_cases hlt : k < tn
        · have hkz : (k : Int) < tn := by omega
          have hx5 := HX5.out.cell hlt
          obtain ⟨tb, to, hta, htc⟩ := HT5.out
          obtain rfl := hta (by omega)
          have hct := htc k hlt
          have HN : Hid (Seen R5 T (k + 1) (m || (R5 k && T k))) := hM.next
          clear htc hta hM
          generalize R5 k = r at *
          generalize T k = t at *
          cases m <;> cases r <;> cases t
          all_goals
            go_wp2
            go_round
            case rel => exact ⟨k + 1, by omega, by go_num, hid ⟨_, rfl, HN.out⟩⟩
            case measure => simp [intOf]; omega
        · have hkG : k = tn := by omega
          subst hkG
          have HM : Hid (Seen R5 T k m) := hM
          clear hM
          rcases HK4.out with ⟨rfl, rfl, hno⟩ | ⟨rfl, F, len, hN, hkl, hR⟩
          · have hm : m = false := by
              cases m
              · rfl
              · obtain ⟨x, hx, h1, h2⟩ := HM.out.1 rfl
                exact absurd ((HR5.out x hx).1 h1) (hno x hx h2)
            subst hm
            clear HM HK4 hno
            go_wp2
            go_loop [108] (fun i => i = .int .i64 0) (fun _ => 0)
            case atStart => rfl
            case round =>
              subst hrel
              go_wp2
              go_ret
              exact ⟨rfl, HW5.out⟩
          · have hm : m = true := HM.out.2 (by
              obtain ⟨t, ht, h1, h2⟩ := hN.comes
              exact ⟨t, ht, (HR5.out t ht).2 h2, h1⟩)
            subst hm
            have HN : Hid (Near k L Z T n Y F len ∧ k4 = len + 1 ∧ ∀ i, i < len + 1 → R4 i = nd L Z n Y (byLev k L Z T len) i) := ⟨hN, hkl, hR⟩
            have hk0 : (0 : Int) < k4 := by omega
            have hk120 : k4 ≤ 120 := by have := hN.lenG; omega
            have hk00 : 0 < k := by have := hN.lenG; omega
            obtain ⟨lb, lo, hla, hlc⟩ := HR45.out
            obtain rfl := hla (by omega)
            have HLC : Hid (∀ i, i < k4 → w5.cell? ⟨lb, lo + i, none⟩ = some (.int .i64 (R4 i))) := hlc
            obtain ⟨tb, to, hta, htc⟩ := HT5.out
            obtain rfl := hta hk00
            have HTC : Hid (∀ i, i < k → w5.cell? ⟨tb, to + i, none⟩ = some (.bool (T i))) := htc
            clear HM HK4 hN hkl hR hla hlc hta htc HR45
            go_wp2
            · exfalso
              simp_all
            go_loopw [108] (fun i wr => ∃ j : Nat, j ≤ k4 ∧ i = .int .i64 j ∧ Hid (Below w5.heap.size w5 wr)) (fun i _ => k4 - (intOf i).toNat)
            case atStart => exact ⟨0, Nat.zero_le _, rfl, hid (Below.refl _ _)⟩
            case round =>
              obtain ⟨j, hj, rfl, HB⟩ := hrel
              by_cases hjl : j < k4
              · have hjz : (j : Int) < k4 := by omega
                obtain ⟨_, x, hx, hxG, _, _⟩ := HN.out.1.nodes j (by have := HN.out.2.1; omega)
                have HX : Hid (nd L Z n Y (byLev k L Z T len) j = x) := hx
                have hlast := (HN.out.1.last (i := j) (by have := HN.out.2.1; omega) hx).2
                have hcx : wr.cell? ⟨lb, lo + j, none⟩ = some (.int .i64 x) := by
                  rw [HB.out.cell (p := ⟨lb, lo + j, none⟩) (World.block_lt_of_cell? _ _ (HLC.out j hjl)), HLC.out j hjl, HN.out.2.2 j (by have := HN.out.2.1; omega), hx]
                have hxz : (x : Int) < k := by omega
                have hjc : j < c4 := by omega
                have hct : wr.cell? ⟨tb, to + x, none⟩ = some (.bool (decide (j = len))) := by
                  rw [HB.out.cell (p := ⟨tb, to + x, none⟩) (World.block_lt_of_cell? _ _ (HTC.out x hxG)), HTC.out x hxG, hlast]
                have HBW : Hid (Below w.heap.size w wr) := HW5.out.trans (HB.out.mono HW5.out.size)
                have hend : ((j : Int) == (k4 : Int) - 1) = decide (j = len) := by
                  rw [Bool.eq_iff_iff, beq_iff_eq, decide_eq_true_eq]
                  have := HN.out.2.1
                  omega
                clear hx hlast
                generalize decide (j = len) = dj at *
                have hdd : (dj != dj) = false := by simp
                have hbefore : Hid (0 < j → ∃ y : Nat, y < k ∧ wr.cell? ⟨lb, lo + (j - 1), none⟩ = some (.int .i64 y) ∧ has (L y) (Z y) x = true) := fun h0 => by
                  obtain ⟨_, y, hy, hyG, _, _⟩ := HN.out.1.nodes (j - 1) (by have := HN.out.2.1; omega)
                  refine ⟨y, hyG, ?_, nd_edge hy (by rw [show j - 1 + 1 = j from by omega]; exact HX.out)⟩
                  rw [HB.out.cell (p := ⟨lb, lo + (j - 1), none⟩) (World.block_lt_of_cell? _ _ (HLC.out (j - 1) (by omega))), HLC.out (j - 1) (by omega), HN.out.2.2 (j - 1) (by have := HN.out.2.1; omega), hy]
                by_cases h0 : j = 0
                · have hj0 : ¬ (0 : Int) < j := by omega
                  clear h0 hbefore
                  go_wp2_with fail
                  refine (way_ok ga k gc L Z (some ⟨wr.heap.size, 0, none⟩) 1 1 (fun _ => (x : Int)) (some ⟨tb, to, none⟩) tc T _ HL.out (by omega) (HG.out.below (HBW.out.alloc HBW.out.size _)) (lit_row _ _ _ rfl) (HT.out.below (HBW.out.alloc HBW.out.size _)) (errF_one' HE.out hxG)).mono ?_
                  rintro e w6 ⟨v6, is6, rfl, hbel6, hW6⟩
                  obtain ⟨a6, k6, c6, R6, rfl, hr6, hk6⟩ := hW6.row
                  have hb6 : Below wr.heap.size wr w6 := ((Below.refl _ _).alloc (Nat.le_refl _) _).trans (hbel6.mono (by simp))
                  have hb56 : Below w5.heap.size w5 w6 := HB.out.trans (hb6.mono HB.out.size)
                  have hsame : k6 = k4 - j ∧ ∀ i, i < k6 → R6 i = R4 (j + i) := by
                    have hkl := HN.out.2.1
                    rcases hk6 with ⟨_, _, hno⟩ | ⟨_, F', len', hN', hkl', hR'⟩
                    · obtain ⟨t, ht, hT, hc⟩ := HN.out.1.restComes (i := j) (by omega) HX.out
                      exact absurd hc (hno t ht hT)
                    · have hll := HN.out.1.restLen (i := j) (by omega) HX.out hN'
                      subst hll
                      exact ⟨by omega, fun i hi => by rw [hR' i (by omega), HN.out.1.rest (by omega) HX.out i (by omega), HN.out.2.2 (j + i) (by omega)]⟩
                  have C6 := equal_any a6 (some ⟨lb, lo + j, none⟩) k6 c6 (k4 - j) (c4 - j) R6 (fun i => R4 (j + i)) w6 (by omega) hr6 (Row.from (cells_at HLC.out hb56) j hj)
                  rw [same_yes hsame.1 hsame.2] at C6
                  have HC6 : Hid (Calls Try.prog 6 #[.slice a6 k6 c6, .slice (some ⟨lb, lo + j, none⟩) (k4 - j) (c4 - j)] w6 fun e w' => e = .returned (.bool true) ∧ ∃ q, w' = w6.drewN q) := C6
                  have HB6 : Hid (Below w5.heap.size w5 w6) := hb56
                  clear hbel6 hW6 hr6 hk6 hb6 hb56 hsame C6
                  go_wp2_with fail
                  refine HC6.out.mono ?_
                  rintro e w7 ⟨rfl, q7, hw7⟩
                  have HB7 : Hid (Below w5.heap.size w5 w7) := by rw [hw7]; exact below_drewN' HB6.out q7
                  clear hw7
                  go_wp2
                  go_roundw
                  case rel => exact ⟨j + 1, by omega, by go_num, HB7⟩
                  case measure => simp [intOf]; omega
                · have hj0 : (0 : Int) < j := by omega
                  obtain ⟨y, hyG, hcy, hhas⟩ := hbefore.out (by omega)
                  have hyz : (y : Int) < k := by omega
                  obtain ⟨gb, go, hga, hgc⟩ := HG.out
                  obtain rfl := hga hk00
                  obtain ⟨a8, c8, hg8, hr8⟩ := hgc y hyG
                  have hg8' : wr.cell? ⟨gb, go + y, none⟩ = some (.slice a8 (L y) c8) := by
                    rw [HBW.out.cell (p := ⟨gb, go + y, none⟩) (World.block_lt_of_cell? _ _ hg8)]; exact hg8
                  have C9 := contains_any a8 (L y) c8 (Z y) x wr (HL.out y hyG) (hr8.below HBW.out)
                  rw [hhas] at C9
                  have HC9 : Hid (Calls Try.prog 9 #[.slice a8 (L y) c8, .int .i64 x] wr fun e w' => e = .returned (.bool true) ∧ w' = wr) := C9
                  clear C9 hhas hg8 hr8 hgc hga h0 hbefore
                  generalize ga0 : (some ⟨gb, go, none⟩ : Option Addr) = ga at HG
                  subst ga0
                  go_wp2_with fail
                  refine HC9.out.mono ?_
                  rintro e w9 ⟨rfl, rfl⟩
                  go_wp2_with fail
                  refine (way_ok (some ⟨gb, go, none⟩) k gc L Z (some ⟨w9.heap.size, 0, none⟩) 1 1 (fun _ => (x : Int)) (some ⟨tb, to, none⟩) tc T _ HL.out (by omega) (HG.out.below (HBW.out.alloc HBW.out.size _)) (lit_row _ _ _ rfl) (HT.out.below (HBW.out.alloc HBW.out.size _)) (errF_one' HE.out hxG)).mono ?_
                  rintro e w6 ⟨v6, is6, rfl, hbel6, hW6⟩
                  obtain ⟨a6, k6, c6, R6, rfl, hr6, hk6⟩ := hW6.row
                  have hb6 : Below w9.heap.size w9 w6 := ((Below.refl _ _).alloc (Nat.le_refl _) _).trans (hbel6.mono (by simp))
                  have hb56 : Below w5.heap.size w5 w6 := HB.out.trans (hb6.mono HB.out.size)
                  have hsame : k6 = k4 - j ∧ ∀ i, i < k6 → R6 i = R4 (j + i) := by
                    have hkl := HN.out.2.1
                    rcases hk6 with ⟨_, _, hno⟩ | ⟨_, F', len', hN', hkl', hR'⟩
                    · obtain ⟨t, ht, hT, hc⟩ := HN.out.1.restComes (i := j) (by omega) HX.out
                      exact absurd hc (hno t ht hT)
                    · have hll := HN.out.1.restLen (i := j) (by omega) HX.out hN'
                      subst hll
                      exact ⟨by omega, fun i hi => by rw [hR' i (by omega), HN.out.1.rest (by omega) HX.out i (by omega), HN.out.2.2 (j + i) (by omega)]⟩
                  have C6 := equal_any a6 (some ⟨lb, lo + j, none⟩) k6 c6 (k4 - j) (c4 - j) R6 (fun i => R4 (j + i)) w6 (by omega) hr6 (Row.from (cells_at HLC.out hb56) j hj)
                  rw [same_yes hsame.1 hsame.2] at C6
                  have HC6 : Hid (Calls Try.prog 6 #[.slice a6 k6 c6, .slice (some ⟨lb, lo + j, none⟩) (k4 - j) (c4 - j)] w6 fun e w' => e = .returned (.bool true) ∧ ∃ q, w' = w6.drewN q) := C6
                  have HB6 : Hid (Below w5.heap.size w5 w6) := hb56
                  clear hbel6 hW6 hr6 hk6 hb6 hb56 hsame C6
                  go_wp2_with fail
                  refine HC6.out.mono ?_
                  rintro e w7 ⟨rfl, q7, hw7⟩
                  have HB7 : Hid (Below w5.heap.size w5 w7) := by rw [hw7]; exact below_drewN' HB6.out q7
                  clear hw7
                  go_wp2
                  go_roundw
                  case rel => exact ⟨j + 1, by omega, by go_num, HB7⟩
                  case measure => simp [intOf]; omega
              · have hjk : j = k4 := by omega
                subst hjk
                obtain ⟨_, x, hx, hxG, _, _⟩ := HN.out.1.nodes 0 (Nat.zero_le _)
                have hcx : wr.cell? ⟨lb, lo, none⟩ = some (.int .i64 x) := by
                  have h0 := HLC.out 0 (by omega)
                  rw [Nat.add_zero] at h0
                  rw [HB.out.cell (p := ⟨lb, lo, none⟩) (World.block_lt_of_cell? _ _ h0), h0, HN.out.2.2 0 (by omega), hx]
                have HBW : Hid (Below w.heap.size w wr) := HW5.out.trans (HB.out.mono HW5.out.size)
                have C9 := contains_any a n c Y x wr hn (HA.out.below HBW.out)
                rw [nd_first hx] at C9
                have HC9 : Hid (Calls Try.prog 9 #[.slice a n c, .int .i64 x] wr fun e w' => e = .returned (.bool true) ∧ w' = wr) := C9
                clear C9 hx
                go_wp2_with fail
                refine HC9.out.mono ?_
                rintro e w9 ⟨rfl, rfl⟩
                go_wp2
                go_ret
                exact ⟨rfl, HBW.out⟩
    · go_wp2_with fail
      have C23 := small_any ga tn gc w4
      rw [decide_eq_false hS] at C23
      refine C23.mono ?_
      rintro e w4' ⟨rfl, rfl⟩
      clear C23
      go_wp2
      go_ret
      exact ⟨rfl, HW4.out⟩
  · obtain ⟨E, hEE⟩ : ∃ E, errW G L Z n Y tn = E := ⟨_, rfl⟩
    have hE0 : E ≠ 0 := by rw [← hEE]; exact hE
    have hz1 : (E != 0) = true := by rw [bne_iff_ne]; exact hE0
    have hz2 : (E == 0) = false := beq_eq_false_iff_ne.2 hE0
    have H4 : Hid (errW G L Z n Y tn = E ∧ E ≠ 0) := ⟨hEE, hE0⟩
    clear hEE hE hE0
    go_wp2_with fail
    refine (way_bad ga G gc L Z a n c Y ta tn tc _ HL.out hn (HG.out.below HW3.out) (HA.out.below HW3.out) E H4.out.1 H4.out.2).mono ?_
    rintro e w4 ⟨rfl, rfl⟩
    go_wp2
    go_ret
    exact ⟨rfl, HW3.out⟩

end Go.Proofs.Ytjfanphbjngfeab
