/- The law SccReaches, by the contracts of what it calls. -/
import Derived.Test.YtjfanphbjngfeaaRefParts
namespace Go.Proofs.Ytjfanphbjngfeaa
open Go.RowKit

set_option maxHeartbeats 1000000 in
theorem sccReaches_walk (ga : Option Addr) (G gc : Nat) (L : Nat → Nat) (Z : Nat → Nat → Int) (a : Option Addr) (n c : Nat) (Y : Nat → Int) (w : World)
    (hL : ∀ r, r < G → L r ≤ 140737488355328) (hn : n ≤ 140737488355328) (h : Gr w ga G L Z) (ha : Row w a n Y) :
    Calls Try.prog 4 #[.slice ga G gc, .slice a n c] w fun e w' => e = .returned (.bool true) ∧ Below w.heap.size w w' := by
  have HL : Hid (∀ r, r < G → L r ≤ 140737488355328) := hL
  have HG : Hid (Gr w ga G L Z) := h
  have HA : Hid (Row w a n Y) := ha
  have C9 : Hid (Calls Try.prog 9 #[.slice ga G gc] w fun e w' => e = .returned (.int .i64 (errG G L Z)) ∧ w' = w) := graph_any ga G gc L Z w hL h
  clear hL h ha
  by_cases hE : errG G L Z = 0
  · rw [hE] at C9
    have HE : Hid (errG G L Z = 0) := hE
    have hG := (errG_zero hE).1
    cases hI : allIn n Y G
    · have HF : Hid (errF G L Z n Y = 1) := hid (by unfold errF; rw [if_pos hE, hI]; rfl)
      have HI : Hid (allIn n Y G = false) := hI
      clear hE hI
      go_enter Try.func4, Try.ntmps4
      go_wp2_with fail
      refine C9.out.mono ?_
      rintro e w' ⟨rfl, rfl⟩
      go_wp2_with fail
      refine (parts_ok _ ga G gc L Z HL.out HG.out HE.out).mono ?_
      rintro e w4 ⟨pb, ml, rfl, hbel4, hb4, hrow4, hIP⟩
      have HW4 : Hid (Below w'.heap.size w' w4) := hbel4
      have HP : Hid (w4.rowIs pb 3 G (fun x => .int .i64 (partNo ml x)) ∧ IsParts G L Z ml) := ⟨hrow4, hIP⟩
      clear hbel4 hb4 hrow4 hIP
      go_wp2_with fail
      refine (reach_bad' ga G gc L Z a n c Y _ HL.out hn (HG.out.below HW4.out) (HA.out.below HW4.out) 1 HF.out (by omega)).mono ?_
      rintro e w5 ⟨rfl, rfl⟩
      by_cases hs : 300 < G
      · have hsz : (300 : Int) < G := by omega
        go_wp2
        go_ret
        exact ⟨rfl, HW4.out⟩
      · have hsz : ¬ (300 : Int) < G := by omega
        go_wp2_with fail
        refine (refParts_any ga G gc L Z ml _ HL.out (HG.out.below HW4.out) HE.out HP.out.2).mono ?_
        rintro e w6 ⟨qb, rfl, hbel6, hrow6⟩
        have HW6 : Hid (Below w'.heap.size w' w6) := HW4.out.trans (hbel6.mono HW4.out.size)
        have C16 := equal_any (some ⟨pb, 0, none⟩) (some ⟨qb, 0, none⟩) G G G G _ _ w6 (by omega) (row_of_rowIs (HP.out.1.of_block (hbel6.block _ HP.out.1.lt))) (row_of_rowIs hrow6)
        rw [same_yes rfl (fun _ _ => rfl)] at C16
        have HC : Hid (Calls Try.prog 16 #[.slice (some ⟨pb, 0, none⟩) G G, .slice (some ⟨qb, 0, none⟩) G G] w6 fun e w' => e = .returned (.bool true) ∧ ∃ q, w' = w6.drewN q) := C16
        clear hbel6 hrow6 C16
        go_wp2_with fail
        refine HC.out.mono ?_
        rintro e w7 ⟨rfl, q, hw7⟩
        have HW7 : Hid (Below w'.heap.size w' w7) := by rw [hw7]; exact below_drewN' HW6.out q
        clear hw7
        go_wp2_with fail
        have C18 := in_any a n c Y G w7 hn (HA.out.below HW7.out)
        rw [HI.out] at C18
        refine C18.mono ?_
        rintro e w8 ⟨rfl, rfl⟩
        clear C18
        go_wp2
        go_ret
        exact ⟨rfl, HW7.out⟩
    · have HF : Hid (errF G L Z n Y = 0) := hid (by unfold errF; rw [if_pos hE, hI]; rfl)
      have HI : Hid (allIn n Y G = true) := hI
      clear hE hI
      go_enter Try.func4, Try.ntmps4
      go_wp2_with fail
      refine C9.out.mono ?_
      rintro e w' ⟨rfl, rfl⟩
      go_wp2_with fail
      refine (parts_ok _ ga G gc L Z HL.out HG.out HE.out).mono ?_
      rintro e w4 ⟨pb, ml, rfl, hbel4, hb4, hrow4, hIP⟩
      have HW4 : Hid (Below w'.heap.size w' w4) := hbel4
      have HP : Hid (w4.rowIs pb 3 G (fun x => .int .i64 (partNo ml x)) ∧ IsParts G L Z ml) := ⟨hrow4, hIP⟩
      clear hbel4 hb4 hrow4 hIP
      go_wp2_with fail
      refine (reach_ok ga G gc L Z a n c Y _ HL.out hn (HG.out.below HW4.out) (HA.out.below HW4.out) HF.out).mono ?_
      rintro e w5 ⟨b5, R5, rfl, hbel5, hb5, hrow5, hR5⟩
      have HW5 : Hid (Below w'.heap.size w' w5) := HW4.out.trans (hbel5.mono HW4.out.size)
      have HP5 : Hid (w5.rowIs pb 3 G (fun x => .int .i64 (partNo ml x)) ∧ IsParts G L Z ml) := ⟨HP.out.1.of_block (hbel5.block _ HP.out.1.lt), HP.out.2⟩
      have HX5 : Hid (w5.rowIs b5 4 G (fun x => .bool (R5 x))) := hrow5
      have HR5 : Hid (∀ x, x < G → (R5 x = true ↔ Comes G L Z n Y x)) := hR5
      clear hbel5 hb5 hrow5 hR5 HP HW4
      by_cases hs : 300 < G
      · have hsz : (300 : Int) < G := by omega
        go_wp2
        go_ret
        exact ⟨rfl, HW5.out⟩
      · have hsz : ¬ (300 : Int) < G := by omega
        go_wp2_with fail
        refine (refParts_any ga G gc L Z ml _ HL.out (HG.out.below HW5.out) HE.out HP5.out.2).mono ?_
        rintro e w6 ⟨qb, rfl, hbel6, hrow6⟩
        have HW6 : Hid (Below w'.heap.size w' w6) := HW5.out.trans (hbel6.mono HW5.out.size)
        have HX6 : Hid (w6.rowIs b5 4 G (fun x => .bool (R5 x))) := HX5.out.of_block (hbel6.block _ HX5.out.lt)
        have C16 := equal_any (some ⟨pb, 0, none⟩) (some ⟨qb, 0, none⟩) G G G G _ _ w6 (by omega) (row_of_rowIs (HP5.out.1.of_block (hbel6.block _ HP5.out.1.lt))) (row_of_rowIs hrow6)
        rw [same_yes rfl (fun _ _ => rfl)] at C16
        have HC : Hid (Calls Try.prog 16 #[.slice (some ⟨pb, 0, none⟩) G G, .slice (some ⟨qb, 0, none⟩) G G] w6 fun e w' => e = .returned (.bool true) ∧ ∃ q, w' = w6.drewN q) := C16
        clear hbel6 hrow6 C16 HX5
        go_wp2_with fail
        refine HC.out.mono ?_
        rintro e w7 ⟨rfl, q, hw7⟩
        have HW7 : Hid (Below w'.heap.size w' w7) := by rw [hw7]; exact below_drewN' HW6.out q
        have HX7 : Hid (w7.rowIs b5 4 G (fun x => .bool (R5 x))) := by rw [hw7]; exact HX6.out.of_block rfl
        clear hw7 HX6 HC
        go_wp2_with fail
        have C18 := in_any a n c Y G w7 hn (HA.out.below HW7.out)
        rw [HI.out] at C18
        refine C18.mono ?_
        rintro e w8 ⟨rfl, rfl⟩
        clear C18
        go_wp2_with fail
        refine (refComes_any ga G gc L Z a n c Y _ HL.out hn (HG.out.below HW7.out) (HA.out.below HW7.out) HF.out).mono ?_
        rintro e w9 ⟨R9, rfl, hbel9, hrow9, hR9⟩
        have HW9 : Hid (Below w'.heap.size w' w9) := HW7.out.trans (hbel9.mono HW7.out.size)
        have C19 := equalB_any (some ⟨b5, 0, none⟩) (some ⟨w8.heap.size, 0, none⟩) G G G G _ _ w9 (by omega) (rowb_of_rowIs (HX7.out.of_block (hbel9.block _ HX7.out.lt))) (rowb_of_rowIs hrow9)
        rw [sameB_yes rfl (fun x hx => by rw [Bool.eq_iff_iff, HR5.out x hx, hR9 x hx])] at C19
        have HC : Hid (Calls Try.prog 19 #[.slice (some ⟨b5, 0, none⟩) G G, .slice (some ⟨w8.heap.size, 0, none⟩) G G] w9 fun e w' => e = .returned (.bool true) ∧ ∃ q, w' = w9.drewN q) := C19
        clear hbel9 hrow9 hR9 C19 HX7
        go_wp2_with fail
        refine HC.out.mono ?_
        rintro e w10 ⟨rfl, q2, rfl⟩
        go_wp2
        go_ret
        exact ⟨rfl, below_drewN' HW9.out q2⟩
  · obtain ⟨E, hEE⟩ : ∃ E, errG G L Z = E := ⟨_, rfl⟩
    have hE0 : E ≠ 0 := by rw [← hEE]; exact hE
    have hz1 : (E != 0) = true := by rw [bne_iff_ne]; exact hE0
    have hz2 : (E == E) = true := by simp
    have H4 : Hid (errG G L Z = E ∧ E ≠ 0 ∧ errF G L Z n Y = E) := ⟨hEE, hE0, by unfold errF; rw [if_neg hE]; exact hEE⟩
    rw [hEE] at C9
    clear hEE hE hE0
    go_enter Try.func4, Try.ntmps4
    go_wp2_with fail
    refine C9.out.mono ?_
    rintro e w' ⟨rfl, rfl⟩
    go_wp2_with fail
    refine (parts_bad _ ga G gc L Z HL.out HG.out E H4.out.1 H4.out.2.1).mono ?_
    rintro e w4 ⟨rfl, rfl⟩
    go_wp2_with fail
    refine (reach_bad' ga G gc L Z a n c Y _ HL.out hn HG.out HA.out E H4.out.2.2 H4.out.2.1).mono ?_
    rintro e w5 ⟨rfl, rfl⟩
    go_wp2
    go_ret
    exact ⟨rfl, Below.refl _ _⟩

end Go.Proofs.Ytjfanphbjngfeaa
