/- The law SccTurned, by the contracts of what it calls. -/
import Derived.Test.YtjfanphbjngfeaaTurned
namespace Go.Proofs.Ytjfanphbjngfeaa
open Go.RowKit

/-- The graph that the law begins with: one may go from 0 to 1, said twice. -/
def litT (r : Nat) : Nat := if r = 0 then 2 else 0
/-- .. and that graph turned round. -/
def litU (r : Nat) : Nat := if r = 1 then 1 else 0

theorem two_get (v : Value) (i : Nat) (hi : i < 2) : (#[v, v] : Array Value)[i]? = some v := by
  match i, hi with
  | 0, _ => rfl
  | 1, _ => rfl

theorem litT_gr (w : World) : Gr (((w.alloc (.cells #[.int .i64 1, .int .i64 1] 3)).alloc (.cells #[] 3)).alloc (.cells #[.slice (some ⟨w.heap.size, 0, none⟩) 2 2, .slice (some ⟨w.heap.size + 1, 0, none⟩) 0 0] 30))
    (some ⟨w.heap.size + 1 + 1, 0, none⟩) 2 litT (fun _ _ => 1) := by
  have h1 := rowIs_lit w #[.int .i64 1, .int .i64 1] 3 w.heap.size 2 (fun _ => .int .i64 1) rfl rfl (two_get _)
  have h4 := rowIs_lit ((w.alloc (.cells #[.int .i64 1, .int .i64 1] 3)).alloc (.cells #[] 3))
    #[.slice (some ⟨w.heap.size, 0, none⟩) 2 2, .slice (some ⟨w.heap.size + 1, 0, none⟩) 0 0] 30 (w.heap.size + 1 + 1) 2
    (fun i => .slice (some ⟨w.heap.size + i, 0, none⟩) (litT i) (litT i)) (by simp) rfl (fun i hi => by
      match i, hi with
      | 0, _ => rfl
      | 1, _ => rfl)
  refine ⟨w.heap.size + 1 + 1, 0, fun _ => rfl, fun r hr => ⟨some ⟨w.heap.size + r, 0, none⟩, litT r, by rw [Nat.zero_add]; exact h4.cell hr, ?_⟩⟩
  match r, hr with
  | 0, _ => exact row_of_rowIs ((h1.alloc _).alloc _)
  | 1, _ => exact row_zero _ _ _

theorem litU_gr (w : World) : Gr (((w.alloc (.cells #[] 3)).alloc (.cells #[.int .i64 0] 3)).alloc (.cells #[.slice (some ⟨w.heap.size, 0, none⟩) 0 0, .slice (some ⟨w.heap.size + 1, 0, none⟩) 1 1] 30))
    (some ⟨w.heap.size + 1 + 1, 0, none⟩) 2 litU (fun _ _ => 0) := by
  have h1 := rowIs_lit (w.alloc (.cells #[] 3)) #[.int .i64 0] 3 (w.heap.size + 1) 1 (fun _ => .int .i64 0) (by simp) rfl (one_get _)
  have h4 := rowIs_lit ((w.alloc (.cells #[] 3)).alloc (.cells #[.int .i64 0] 3))
    #[.slice (some ⟨w.heap.size, 0, none⟩) 0 0, .slice (some ⟨w.heap.size + 1, 0, none⟩) 1 1] 30 (w.heap.size + 1 + 1) 2
    (fun i => .slice (some ⟨w.heap.size + i, 0, none⟩) (litU i) (litU i)) (by simp) rfl (fun i hi => by
      match i, hi with
      | 0, _ => rfl
      | 1, _ => rfl)
  refine ⟨w.heap.size + 1 + 1, 0, fun _ => rfl, fun r hr => ⟨some ⟨w.heap.size + r, 0, none⟩, litU r, by rw [Nat.zero_add]; exact h4.cell hr, ?_⟩⟩
  match r, hr with
  | 0, _ => exact row_zero _ _ _
  | 1, _ => exact row_of_rowIs (h1.alloc _)

theorem litT_err : errG 2 litT (fun _ _ => 1) = 0 := by decide
theorem litT_same : sameG 2 2 (tL litT (fun _ _ => 1) 2) litU (tZ litT (fun _ _ => 1) 2) (fun _ _ => 0) = true := by decide
theorem below_litT (w : World) : Below w.heap.size w (((w.alloc (.cells #[.int .i64 1, .int .i64 1] 3)).alloc (.cells #[] 3)).alloc (.cells #[.slice (some ⟨w.heap.size, 0, none⟩) 2 2, .slice (some ⟨w.heap.size + 1, 0, none⟩) 0 0] 30)) :=
  (((Below.refl _ _).alloc (Nat.le_refl _) _).alloc (by simp) _).alloc (by simp; omega) _
theorem below_litU {B : Nat} {w0 w : World} (h : Below B w0 w) (hB : B ≤ w.heap.size) : Below B w0 (((w.alloc (.cells #[] 3)).alloc (.cells #[.int .i64 0] 3)).alloc (.cells #[.slice (some ⟨w.heap.size, 0, none⟩) 0 0, .slice (some ⟨w.heap.size + 1, 0, none⟩) 1 1] 30)) :=
  ((h.alloc hB _).alloc (by simp; omega) _).alloc (by simp; omega) _

set_option maxHeartbeats 1000000 in
set_option maxRecDepth 20000 in
theorem sccTurned_walk (ga : Option Addr) (G gc : Nat) (L : Nat → Nat) (Z : Nat → Nat → Int) (n : Int) (w : World)
    (hL : ∀ r, r < G → L r ≤ 140737488355328) (h : Gr w ga G L Z) :
    Calls Try.prog 7 #[.slice ga G gc, .int .i64 n] w fun e w' => e = .returned (.bool true) ∧ Below w.heap.size w w' := by
  have HL : Hid (∀ r, r < G → L r ≤ 140737488355328) := hL
  have HG : Hid (Gr w ga G L Z) := h
  clear hL h
  go_enter Try.func7, Try.ntmps7
  go_wp2_with fail
  refine (turn_ok (some ⟨w.heap.size + 1 + 1, 0, none⟩) 2 2 litT (fun _ _ => 1) _ (fun r hr => by unfold litT; split <;> omega) (litT_gr w) litT_err).mono ?_
  rintro e w1 ⟨rfl, V1, hF1⟩
  have HW1 : Hid (Below w.heap.size w w1) := (below_litT w).trans (hF1.below.mono (by simp; omega))
  have HG1 := hF1.gr'
  generalize (((w.alloc (.cells #[.int .i64 1, .int .i64 1] 3)).alloc (.cells #[] 3)).alloc (.cells #[.slice (some ⟨w.heap.size, 0, none⟩) 2 2, .slice (some ⟨w.heap.size + 1, 0, none⟩) 0 0] 30)).heap.size = tb at *
  have HG1' : Hid (Gr w1 (some ⟨tb, 0, none⟩) 2 (tL litT (fun _ _ => 1) 2) (tZ litT (fun _ _ => 1) 2)) := HG1
  clear hF1 HG1
  go_wp2_with fail
  have C24 := lists2_any (some ⟨tb, 0, none⟩) (some ⟨w1.heap.size + 1 + 1, 0, none⟩) 2 2 2 2 _ _ _ _ _ (by omega) (fun r _ => by have := tl_le litT (fun _ _ => 1) 2 r; unfold tL; omega) (HG1'.out.below (below_litU (Below.refl _ _) (Nat.le_refl _))) (litU_gr w1)
  rw [litT_same] at C24
  refine C24.mono ?_
  rintro e w3 ⟨rfl, q, hw3⟩
  have HW3 : Hid (Below w.heap.size w w3) := by rw [hw3]; exact below_drewN' (below_litU HW1.out HW1.out.size) q
  clear hw3 C24 HG1' HW1
  by_cases hS : G ≤ 120
  · by_cases hG0 : G = 0
    · subst hG0
      go_wp2_with fail
      have C23 := small_any ga 0 gc w3
      rw [decide_eq_true hS] at C23
      refine C23.mono ?_
      rintro e w3' ⟨rfl, rfl⟩
      clear C23
      go_wp2
      go_ret
      exact ⟨rfl, HW3.out⟩
    · have hgz : ((G : Int) == 0) = false := by rw [beq_eq_false_iff_ne]; omega
      go_wp2_with fail
      have C23 := small_any ga G gc w3
      rw [decide_eq_true hS] at C23
      refine C23.mono ?_
      rintro e w3' ⟨rfl, rfl⟩
      clear C23
      by_cases hE : errG G L Z = 0
      · have HE : Hid (errG G L Z = 0) := hE
        have HE1 : Hid (errG G (tL L Z G) (tZ L Z G) = 0) := turn_errG hE
        have HE2 : Hid (errG G (tL (tL L Z G) (tZ L Z G) G) (tZ (tL L Z G) (tZ L Z G) G) = 0) := turn_errG (turn_errG hE)
        have HB1 : Hid (∀ r, r < G → tL L Z G r ≤ 140737488355328) := fun r _ => by have := tl_le L Z G r; unfold tL; omega
        have HB2 : Hid (∀ r, r < G → tL (tL L Z G) (tZ L Z G) G r ≤ 140737488355328) := fun r _ => by have := tl_le (tL L Z G) (tZ L Z G) G r; unfold tL at this ⊢; omega
        clear hE
        go_wp2_with fail
        refine (turn_ok ga G gc L Z _ HL.out (HG.out.below HW3.out) HE.out).mono ?_
        rintro e w4 ⟨rfl, V4, hF4⟩
        have HW4 : Hid (Below w.heap.size w w4) := HW3.out.trans (hF4.below.mono HW3.out.size)
        have HT4 : Hid (Gr w4 (some ⟨w3'.heap.size, 0, none⟩) G (tL L Z G) (tZ L Z G)) := hF4.gr'
        clear hF4 HW3
        generalize w3'.heap.size = tb1 at *
        go_wp2_with fail
        refine (turn_ok (some ⟨tb1, 0, none⟩) G G (tL L Z G) (tZ L Z G) _ HB1.out HT4.out HE1.out).mono ?_
        rintro e w5 ⟨rfl, V5, hF5⟩
        have HW5 : Hid (Below w.heap.size w w5) := HW4.out.trans (hF5.below.mono HW4.out.size)
        have HT5 : Hid (Gr w5 (some ⟨tb1, 0, none⟩) G (tL L Z G) (tZ L Z G)) := HT4.out.below hF5.below
        have HU5 : Hid (Gr w5 (some ⟨w4.heap.size, 0, none⟩) G (tL (tL L Z G) (tZ L Z G) G) (tZ (tL L Z G) (tZ L Z G) G)) := hF5.gr'
        clear hF5 HW4 HT4
        generalize w4.heap.size = tb2 at *
        go_wp2_with fail
        refine (turn_ok (some ⟨tb2, 0, none⟩) G G _ _ _ HB2.out HU5.out HE2.out).mono ?_
        rintro e w6 ⟨rfl, V6, hF6⟩
        have HW6 : Hid (Below w.heap.size w w6) := HW5.out.trans (hF6.below.mono HW5.out.size)
        have HT6 : Hid (Gr w6 (some ⟨tb1, 0, none⟩) G (tL L Z G) (tZ L Z G)) := HT5.out.below hF6.below
        have HV6 : Hid (Gr w6 (some ⟨w5.heap.size, 0, none⟩) G (tL (tL (tL L Z G) (tZ L Z G) G) (tZ (tL L Z G) (tZ L Z G) G) G) (tZ (tL (tL L Z G) (tZ L Z G) G) (tZ (tL L Z G) (tZ L Z G) G) G)) := hF6.gr'
        clear hF6 HW5 HT5 HU5
        generalize w5.heap.size = tb3 at *
        go_wp2_with fail
        refine (parts_ok _ ga G gc L Z HL.out (HG.out.below HW6.out) HE.out).mono ?_
        rintro e w7 ⟨pb, ml, rfl, hbel7, hb7, hrow7, hIP7⟩
        have HW7 : Hid (Below w.heap.size w w7) := HW6.out.trans (hbel7.mono HW6.out.size)
        have HT7 : Hid (Gr w7 (some ⟨tb1, 0, none⟩) G (tL L Z G) (tZ L Z G)) := HT6.out.below hbel7
        have HV7 := hid (HV6.out.below hbel7)
        have HP7 : Hid (w7.rowIs pb 3 G (fun x => .int .i64 (partNo ml x)) ∧ IsParts G L Z ml) := ⟨hrow7, hIP7⟩
        clear hbel7 hb7 hrow7 hIP7 HW6 HT6 HV6
        go_wp2_with fail
        refine (parts_ok _ (some ⟨tb1, 0, none⟩) G G _ _ HB1.out HT7.out HE1.out).mono ?_
        rintro e w8 ⟨qb, ml2, rfl, hbel8, hb8, hrow8, hIP8⟩
        have HW8 : Hid (Below w.heap.size w w8) := HW7.out.trans (hbel8.mono HW7.out.size)
        have HT8 : Hid (Gr w8 (some ⟨tb1, 0, none⟩) G (tL L Z G) (tZ L Z G)) := HT7.out.below hbel8
        have C24 := lists2_any (some ⟨tb3, 0, none⟩) (some ⟨tb1, 0, none⟩) G G G G _ _ _ _ w8 (by omega) (fun r _ => by have := tl_le (tL (tL L Z G) (tZ L Z G) G) (tZ (tL L Z G) (tZ L Z G) G) G r; unfold tL at this ⊢; omega) (HV7.out.below hbel8) HT8.out
        rw [sameG_yes rfl (fun r hr => by
          have e := tl_thrice (L := L) (Z := Z) r hr
          refine same_yes ?_ (fun i _ => ?_)
          · show (tl _ _ G r).length = (tl L Z G r).length
            rw [e]
          · show (tl _ _ G r).getD i 0 = (tl L Z G r).getD i 0
            rw [e])] at C24
        have HC24 : Hid (Calls Try.prog 24 #[.slice (some ⟨tb3, 0, none⟩) G G, .slice (some ⟨tb1, 0, none⟩) G G] w8 fun e w' => e = .returned (.bool true) ∧ ∃ q, w' = w8.drewN q) := C24
        have HPQ : Hid (Row w8 (some ⟨pb, 0, none⟩) G (partNo ml) ∧ Row w8 (some ⟨qb, 0, none⟩) G (partNo ml2) ∧ ∀ x, x < G → partNo ml x = partNo ml2 x) :=
          ⟨row_of_rowIs (HP7.out.1.of_block (hbel8.block _ HP7.out.1.lt)), row_of_rowIs hrow8, parts_turn HE.out HP7.out.2 hIP8⟩
        clear hbel8 hb8 hrow8 hIP8 HW7 HT7 HV7 HP7 C24
        go_wp2_with fail
        refine HC24.out.mono ?_
        rintro e w9 ⟨rfl, q9, hw9⟩
        have HW9 : Hid (Below w.heap.size w w9) := by rw [hw9]; exact below_drewN' HW8.out q9
        have HT9 : Hid (Gr w9 (some ⟨tb1, 0, none⟩) G (tL L Z G) (tZ L Z G)) := by rw [hw9]; exact HT8.out.below (below_drewN' (Below.refl _ _) q9)
        have C16 := equal_any (some ⟨pb, 0, none⟩) (some ⟨qb, 0, none⟩) G G G G _ _ w9 (by omega) (by rw [hw9]; exact HPQ.out.1.below (below_drewN' (Below.refl _ _) q9)) (by rw [hw9]; exact HPQ.out.2.1.below (below_drewN' (Below.refl _ _) q9))
        rw [same_yes rfl HPQ.out.2.2] at C16
        have HC16 : Hid (Calls Try.prog 16 #[.slice (some ⟨pb, 0, none⟩) G G, .slice (some ⟨qb, 0, none⟩) G G] w9 fun e w' => e = .returned (.bool true) ∧ ∃ q, w' = w9.drewN q) := C16
        clear hw9 C16 HC24 HPQ HW8 HT8
        go_wp2_with fail
        refine HC16.out.mono ?_
        rintro e w10 ⟨rfl, q10, hw10⟩
        have HW10 : Hid (Below w.heap.size w w10) := by rw [hw10]; exact below_drewN' HW9.out q10
        have HT10 : Hid (Gr w10 (some ⟨tb1, 0, none⟩) G (tL L Z G) (tZ L Z G)) := by rw [hw10]; exact HT9.out.below (below_drewN' (Below.refl _ _) q10)
        clear hw10 HC16 HW9 HT9
        go_wp2_with fail
        refine (rest_any n G _ (by omega) hS).mono ?_
        rintro e w11 ⟨a, haG, rfl, rfl⟩
        have haz : (a : Int) < G := by omega
        go_wp2_with fail
        refine (reach_ok ga G gc L Z (some ⟨w11.heap.size, 0, none⟩) 1 1 (fun _ => (a : Int)) _ HL.out (by omega) (HG.out.below (HW10.out.alloc HW10.out.size _)) (lit_row _ _ _ rfl) (errF_one HE.out haG)).mono ?_
        rintro e w12 ⟨b12, R12, rfl, hbel12, hb12, hrow12, hR12⟩
        have hb1112 : Below w11.heap.size w11 w12 := ((Below.refl _ _).alloc (Nat.le_refl _) _).trans (hbel12.mono (by simp))
        have HW12 : Hid (Below w.heap.size w w12) := HW10.out.trans (hb1112.mono HW10.out.size)
        have HT12 : Hid (Gr w12 (some ⟨tb1, 0, none⟩) G (tL L Z G) (tZ L Z G)) := HT10.out.below hb1112
        have HX12 : Hid (w12.rowIs b12 4 G (fun x => .bool (R12 x))) := hrow12
        have HR12 : Hid (∀ x, x < G → (R12 x = true ↔ Rch (Ego G L Z) a x)) := fun x hx => (hR12 x hx).trans comes_one
        clear hbel12 hb12 hrow12 hR12 hb1112 HW10 HT10
        go_wp2
        go_loopw [108] (fun i wr => ∃ k : Nat, k ≤ G ∧ i = .int .i64 k ∧ Hid (Below w12.heap.size w12 wr)) (fun i _ => G - (intOf i).toNat)
        case atStart => exact ⟨0, Nat.zero_le _, rfl, hid (Below.refl _ _)⟩
        case round =>
          obtain ⟨k, hk, rfl, HB⟩ := hrel
          by_cases hlt : k < G
          · have hkz : (k : Int) < G := by omega
            have hx12 : wr.cell? ⟨b12, k, none⟩ = some (.bool (R12 k)) := by
              rw [HB.out.cell (p := ⟨b12, k, none⟩) HX12.out.lt]; exact HX12.out.cell hlt
            go_wp2_with fail
            refine (reach_ok (some ⟨tb1, 0, none⟩) G G (tL L Z G) (tZ L Z G) (some ⟨wr.heap.size, 0, none⟩) 1 1 (fun _ => (k : Int)) _ HB1.out (by omega) (HT12.out.below (HB.out.alloc HB.out.size _)) (lit_row _ _ _ rfl) (errF_one HE1.out hlt)).mono ?_
            rintro e w13 ⟨b13, R13, rfl, hbel13, hb13, hrow13, hR13⟩
            have HB13 : Hid (Below w12.heap.size w12 w13) := (HB.out.alloc HB.out.size _).trans (hbel13.mono (by have := HB.out.size; simp; omega))
            have hx13 : w13.cell? ⟨b13, a, none⟩ = some (.bool (R13 a)) := hrow13.cell haG
            have hsame : R13 a = R12 k := by
              rw [Bool.eq_iff_iff, hR13 a haG, HR12.out k hlt, comes_one, rch_turn HE.out]
            rw [hsame] at hx13
            have hbb : (R12 k != R12 k) = false := by simp
            clear hbel13 hb13 hrow13 hR13 hsame hx12 HB
            generalize R12 k = rk at *
            go_wp2
            go_roundw
            case rel => exact ⟨k + 1, by omega, by go_num, HB13⟩
            case measure => simp [intOf]; omega
          · go_wp2
            go_ret
            exact ⟨rfl, HW12.out.trans (HB.out.mono HW12.out.size)⟩
      · obtain ⟨E, hEE⟩ : ∃ E, errG G L Z = E := ⟨_, rfl⟩
        have hE0 : E ≠ 0 := by rw [← hEE]; exact hE
        have hz1 : (E != 0) = true := by rw [bne_iff_ne]; exact hE0
        have hz2 : (E == E) = true := by simp
        have H4 : Hid (errG G L Z = E ∧ errG G L Z ≠ 0) := ⟨hEE, hE⟩
        clear hEE hE hE0
        go_wp2_with fail
        have C10 := turn_bad ga G gc L Z _ HL.out (HG.out.below HW3.out) H4.out.2
        rw [H4.out.1] at C10
        refine C10.mono ?_
        rintro e w4 ⟨rfl, rfl⟩
        clear C10
        go_wp2_with fail
        have C11 := check_any ga G gc L Z _ HL.out (HG.out.below HW3.out)
        rw [H4.out.1] at C11
        refine C11.mono ?_
        rintro e w5 ⟨rfl, rfl⟩
        clear C11
        go_wp2
        go_ret
        exact ⟨rfl, HW3.out⟩
  · go_wp2_with fail
    have C23 := small_any ga G gc w3
    rw [decide_eq_false hS] at C23
    refine C23.mono ?_
    rintro e w3' ⟨rfl, rfl⟩
    go_wp2
    go_ret
    exact ⟨rfl, HW3.out⟩

end Go.Proofs.Ytjfanphbjngfeaa
