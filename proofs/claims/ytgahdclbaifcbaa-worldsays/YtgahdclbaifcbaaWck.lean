/- Check of a word, the program's and the document's; the letter at a place, likewise. -/
import Derived.Test.YtgahdclbaifcbaaRws
namespace Go.Proofs.Ytgahdclbaifcbaa
open Go.RowKit

set_option maxHeartbeats 400000 in
theorem wcheck_any (sa : Option Addr) (s sc : Nat) (la : Option Addr) (m lc : Nat) (w : World) (hs : s ≤ 140737488355328) (hm : m ≤ 140737488355328) :
    Calls Try.prog 40 #[.agg #[.slice sa s sc, .slice la m lc]] w fun e w' => e = .returned (.int .i64 (wchk s m)) ∧ Below w.heap.size w w' := by
  by_cases h1 : 60 < s + m
  · have E : Hid (wchk s m = 2) := if_pos h1
    have d1 : decide ((60 : Int) < (s : Int) + m) = true := decide_eq_true (by omega)
    go_enter Try.func40, Try.ntmps40
    go_wp2
    go_ret
    exact ⟨ret_int E.out.symm, box_below _ _⟩
  by_cases h2 : m = 0
  · have E : Hid (wchk s m = 1) := (if_neg h1).trans (if_pos h2)
    subst h2
    go_enter Try.func40, Try.ntmps40
    go_wp2
    go_ret
    exact ⟨ret_int E.out.symm, box_below _ _⟩
  · have E : Hid (wchk s m = 0) := (if_neg h1).trans (if_neg h2)
    have h2b : ((m : Int) == 0) = false := beq_eq_false_iff_ne.2 (by omega)
    go_enter Try.func40, Try.ntmps40
    go_wp2
    go_ret
    exact ⟨ret_int E.out.symm, box_below _ _⟩

end Go.Proofs.Ytgahdclbaifcbaa

