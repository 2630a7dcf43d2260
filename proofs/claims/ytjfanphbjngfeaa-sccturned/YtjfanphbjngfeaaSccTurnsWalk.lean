/- The law SccTurns, by the contracts of what it calls. -/
import Derived.Test.YtjfanphbjngfeaaTurn
namespace Go.Proofs.Ytjfanphbjngfeaa
open Go.RowKit

theorem graph_ok (ga : Option Addr) (G gc : Nat) (L : Nat → Nat) (Z : Nat → Nat → Int) (w : World) (hL : ∀ r, r < G → L r ≤ 140737488355328) (h : Gr w ga G L Z) (h0 : errG G L Z = 0) :
    Calls Try.prog 9 #[.slice ga G gc] w fun e w' => e = .returned (.int .i64 0) ∧ w' = w := by
  have := graph_any ga G gc L Z w hL h
  rwa [h0] at this

theorem sameG_self (G : Nat) (L : Nat → Nat) (Z : Nat → Nat → Int) : sameG G G L L Z Z = true := sameG_yes rfl (fun _ _ => same_yes rfl (fun _ _ => rfl))

set_option maxHeartbeats 400000 in
theorem sccTurns_bad (ga : Option Addr) (G gc : Nat) (L : Nat → Nat) (Z : Nat → Nat → Int) (w : World) (hL : ∀ r, r < G → L r ≤ 140737488355328) (h : Gr w ga G L Z) (h0 : errG G L Z ≠ 0) :
    Calls Try.prog 3 #[.slice ga G gc] w fun e w' => e = .returned (.bool true) ∧ Below w.heap.size w w' := by
  have C9 : Hid (Calls Try.prog 9 #[.slice ga G gc] w fun e w' => e = .returned (.int .i64 (errG G L Z)) ∧ w' = w) := graph_any ga G gc L Z w hL h
  have C10 : Hid (Calls Try.prog 10 #[.slice ga G gc] w fun e w' => e = .returned (.tuple #[.slice none 0 0, .int .i64 (errG G L Z)]) ∧ w' = w) := turn_bad ga G gc L Z w hL h h0
  have C11 : Hid (Calls Try.prog 11 #[.slice ga G gc] w fun e w' => e = .returned (.int .i64 (errG G L Z)) ∧ w' = w) := check_any ga G gc L Z w hL h
  have hz : (errG G L Z != 0) = true := by rw [bne_iff_ne]; exact h0
  generalize errG G L Z = E at *
  have hzz : (E != E) = false := by simp
  clear h h0 hL
  go_enter Try.func3, Try.ntmps3
  go_wp2_with fail
  refine C9.out.mono ?_
  rintro e w' ⟨rfl, rfl⟩
  go_wp2_with fail
  refine C10.out.mono ?_
  rintro e w' ⟨rfl, rfl⟩
  go_wp2_with fail
  refine C11.out.mono ?_
  rintro e w' ⟨rfl, rfl⟩
  go_wp2
  go_ret
  exact ⟨rfl, Below.refl _ _⟩

set_option maxHeartbeats 400000 in
theorem sccTurns_ok (ga : Option Addr) (G gc : Nat) (L : Nat → Nat) (Z : Nat → Nat → Int) (w : World) (hL : ∀ r, r < G → L r ≤ 140737488355328) (h : Gr w ga G L Z) (h0 : errG G L Z = 0) :
    Calls Try.prog 3 #[.slice ga G gc] w fun e w' => e = .returned (.bool true) ∧ Below w.heap.size w w' := by
  have HL : Hid (∀ r, r < G → L r ≤ 140737488355328) := hL
  have HG : Hid (Gr w ga G L Z) := h
  have H0 : Hid (errG G L Z = 0) := h0
  have hG := (errG_zero h0).1
  clear hL h h0
  by_cases hs : 300 < G
  · have hsz : (300 : Int) < G := by omega
    go_enter Try.func3, Try.ntmps3
    go_wp2_with fail
    refine (graph_ok ga G gc L Z _ HL.out HG.out H0.out).mono ?_
    rintro e w' ⟨rfl, rfl⟩
    go_wp2_with fail
    refine (turn_ok ga G gc L Z _ HL.out HG.out H0.out).mono ?_
    rintro e w1 ⟨rfl, V, hF⟩
    have HF : Hid (Fam w' w1 G (tl L Z G) V) := hF
    clear hF
    go_wp2_with fail
    refine (check_ok ga G gc L Z _ HL.out (HG.out.below HF.out.below) H0.out).mono ?_
    rintro e w2 ⟨rfl, rfl⟩
    go_wp2
    go_ret
    exact ⟨rfl, HF.out.below⟩
  · have hsz : ¬ (300 : Int) < G := by omega
    go_enter Try.func3, Try.ntmps3
    go_wp2_with fail
    refine (graph_ok ga G gc L Z _ HL.out HG.out H0.out).mono ?_
    rintro e w' ⟨rfl, rfl⟩
    go_wp2_with fail
    refine (turn_ok ga G gc L Z _ HL.out HG.out H0.out).mono ?_
    rintro e w1 ⟨rfl, V, hF⟩
    have HF : Hid (Fam w' w1 G (tl L Z G) V) := hF
    clear hF
    go_wp2_with fail
    refine (check_ok ga G gc L Z _ HL.out (HG.out.below HF.out.below) H0.out).mono ?_
    rintro e w2 ⟨rfl, rfl⟩
    go_wp2_with fail
    refine (turned_any ga G gc L Z _ hG HL.out (HG.out.below HF.out.below)).mono ?_
    rintro e w3 ⟨rfl, V3, hF3⟩
    have HF3 : Hid (Fam w2 w3 G (tl L Z G) V3) := hF3
    clear hF3
    go_wp2_with fail
    have C12 := lists_any (some ⟨w'.heap.size, 0, none⟩) (some ⟨w2.heap.size, 0, none⟩) G G G G _ _ _ _ w3 (by omega) (fun r _ => by have := tl_le L Z G r; omega) (HF.out.gr.below HF3.out.below) HF3.out.gr
    rw [sameG_self] at C12
    refine C12.mono ?_
    rintro e w4 ⟨rfl, q, rfl⟩
    go_wp2
    go_ret
    exact ⟨rfl, HF.out.below.trans ((HF3.out.below.mono (by have := HF.out.below.size; omega)).trans ⟨rfl, rfl, rfl, Nat.le_refl _, fun _ _ => rfl⟩)⟩

theorem sccTurns_walk (ga : Option Addr) (G gc : Nat) (L : Nat → Nat) (Z : Nat → Nat → Int) (w : World) (hL : ∀ r, r < G → L r ≤ 140737488355328) (h : Gr w ga G L Z) :
    Calls Try.prog 3 #[.slice ga G gc] w fun e w' => e = .returned (.bool true) ∧ Below w.heap.size w w' := by
  by_cases h0 : errG G L Z = 0
  · exact sccTurns_ok ga G gc L Z w hL h h0
  · exact sccTurns_bad ga G gc L Z w hL h h0

end Go.Proofs.Ytjfanphbjngfeaa
