/- The document's LtlKids, and its look at a formula. -/
import Derived.Test.YtinacgkiigbmjaaDoorChk2
import Derived.Deep.RegionHeld3
namespace Go.Proofs.YtinacgkiigbmjaaDoor
open Go.RowKit

set_option maxHeartbeats 1000000 in
theorem ltlKids_any (k : Int) (w : World) : Calls Tryd.prog 25 #[.int .i64 k] w fun e w' => e = .returned (.int .i64 (ar k)) ∧ w' = w := by
  by_cases h1 : k = 1
  · subst h1
    show Calls Tryd.prog 25 #[.int .i64 1] w fun e w' => e = .returned (.int .i64 0) ∧ w' = w
    go_enter Tryd.func25, Tryd.ntmps25
    go_wp2
    go_ret
    exact ⟨rfl, rfl⟩
  by_cases h2 : k = 2
  · subst h2
    show Calls Tryd.prog 25 #[.int .i64 2] w fun e w' => e = .returned (.int .i64 0) ∧ w' = w
    go_enter Tryd.func25, Tryd.ntmps25
    go_wp2
    go_ret
    exact ⟨rfl, rfl⟩
  by_cases h3 : k = 3
  · subst h3
    show Calls Tryd.prog 25 #[.int .i64 3] w fun e w' => e = .returned (.int .i64 0) ∧ w' = w
    go_enter Tryd.func25, Tryd.ntmps25
    go_wp2
    go_ret
    exact ⟨rfl, rfl⟩
  by_cases h4 : k = 4
  · subst h4
    show Calls Tryd.prog 25 #[.int .i64 4] w fun e w' => e = .returned (.int .i64 1) ∧ w' = w
    go_enter Tryd.func25, Tryd.ntmps25
    go_wp2
    go_ret
    exact ⟨rfl, rfl⟩
  by_cases h7 : k = 7
  · subst h7
    show Calls Tryd.prog 25 #[.int .i64 7] w fun e w' => e = .returned (.int .i64 1) ∧ w' = w
    go_enter Tryd.func25, Tryd.ntmps25
    go_wp2
    go_ret
    exact ⟨rfl, rfl⟩
  by_cases h10 : k = 10
  · subst h10
    show Calls Tryd.prog 25 #[.int .i64 10] w fun e w' => e = .returned (.int .i64 1) ∧ w' = w
    go_enter Tryd.func25, Tryd.ntmps25
    go_wp2
    go_ret
    exact ⟨rfl, rfl⟩
  by_cases h11 : k = 11
  · subst h11
    show Calls Tryd.prog 25 #[.int .i64 11] w fun e w' => e = .returned (.int .i64 1) ∧ w' = w
    go_enter Tryd.func25, Tryd.ntmps25
    go_wp2
    go_ret
    exact ⟨rfl, rfl⟩
  by_cases h5 : k = 5
  · subst h5
    show Calls Tryd.prog 25 #[.int .i64 5] w fun e w' => e = .returned (.int .i64 2) ∧ w' = w
    go_enter Tryd.func25, Tryd.ntmps25
    go_wp2
    go_ret
    exact ⟨rfl, rfl⟩
  by_cases h6 : k = 6
  · subst h6
    show Calls Tryd.prog 25 #[.int .i64 6] w fun e w' => e = .returned (.int .i64 2) ∧ w' = w
    go_enter Tryd.func25, Tryd.ntmps25
    go_wp2
    go_ret
    exact ⟨rfl, rfl⟩
  by_cases h8 : k = 8
  · subst h8
    show Calls Tryd.prog 25 #[.int .i64 8] w fun e w' => e = .returned (.int .i64 2) ∧ w' = w
    go_enter Tryd.func25, Tryd.ntmps25
    go_wp2
    go_ret
    exact ⟨rfl, rfl⟩
  by_cases h9 : k = 9
  · subst h9
    show Calls Tryd.prog 25 #[.int .i64 9] w fun e w' => e = .returned (.int .i64 2) ∧ w' = w
    go_enter Tryd.func25, Tryd.ntmps25
    go_wp2
    go_ret
    exact ⟨rfl, rfl⟩
  have E : Hid (ar k = -1) := by
    show ar k = -1
    unfold ar
    rw [if_neg (by omega), if_neg (by omega), if_neg (by omega)]
  have b1 : (k == 1) = false := beq_eq_false_iff_ne.2 h1
  have b2 : (k == 2) = false := beq_eq_false_iff_ne.2 h2
  have b3 : (k == 3) = false := beq_eq_false_iff_ne.2 h3
  have b4 : (k == 4) = false := beq_eq_false_iff_ne.2 h4
  have b7 : (k == 7) = false := beq_eq_false_iff_ne.2 h7
  have b10 : (k == 10) = false := beq_eq_false_iff_ne.2 h10
  have b11 : (k == 11) = false := beq_eq_false_iff_ne.2 h11
  have b5 : (k == 5) = false := beq_eq_false_iff_ne.2 h5
  have b6 : (k == 6) = false := beq_eq_false_iff_ne.2 h6
  have b8 : (k == 8) = false := beq_eq_false_iff_ne.2 h8
  have b9 : (k == 9) = false := beq_eq_false_iff_ne.2 h9
  clear h1 h2 h3 h4 h7 h10 h11 h5 h6 h8 h9
  go_enter Tryd.func25, Tryd.ntmps25
  go_wp2
  go_ret
  exact ⟨ret_int E.out.symm, rfl⟩

theorem But.of_heap {b : Nat} {u v w : World} (h : But b u w) (e : u.heap = v.heap) (e1 : u.os = v.os) (e2 : u.tape = v.tape) (e3 : u.output = v.output) : But b v w :=
  ⟨h.os.trans e1, h.tape.trans e2, h.output.trans e3, e ▸ h.size, fun k h1 h2 => (h.block k (e ▸ h1) h2).trans (by rw [e])⟩

theorem below_of_heap {B : Nat} {u v w : World} (h : Below B w u) (e : u.heap = v.heap) (e1 : u.os = v.os) (e2 : u.tape = v.tape) (e3 : u.output = v.output) : Below B w v :=
  ⟨e1.symm.trans h.os, e2.symm.trans h.tape, e3.symm.trans h.output, e ▸ h.size, fun k h1 => by rw [← e]; exact h.block k h1⟩

theorem But.drewN {b : Nat} {u w : World} (h : But b u w) (n : Nat) : But b u (w.drewN n) := ⟨h.os, h.tape, h.output, h.size, h.block⟩

end Go.Proofs.YtinacgkiigbmjaaDoor
