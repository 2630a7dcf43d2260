/- Check of a word, the program's and the document's; the letter at a place, likewise. -/
import Derived.Test.YtejombhfkobcbaaDoorRws
namespace Go.Proofs.YtejombhfkobcbaaDoor
open Go.RowKit

set_option maxHeartbeats 400000 in
theorem wcheck_any (sa : Option Addr) (s sc : Nat) (la : Option Addr) (m lc : Nat) (w : World) (hs : s ≤ 140737488355328) (hm : m ≤ 140737488355328) :
    Calls Tryd.prog 10 #[.agg #[.slice sa s sc, .slice la m lc]] w fun e w' => e = .returned (.int .i64 (wchk s m)) ∧ Below w.heap.size w w' := by
  by_cases h1 : 60 < s + m
  · have E : Hid (wchk s m = 2) := if_pos h1
    have d1 : decide ((60 : Int) < (s : Int) + m) = true := decide_eq_true (by omega)
    go_enter Tryd.func10, Tryd.ntmps10
    go_wp2
    go_ret
    exact ⟨ret_int E.out.symm, box_below _ _⟩
  by_cases h2 : m = 0
  · have E : Hid (wchk s m = 1) := (if_neg h1).trans (if_pos h2)
    subst h2
    go_enter Tryd.func10, Tryd.ntmps10
    go_wp2
    go_ret
    exact ⟨ret_int E.out.symm, box_below _ _⟩
  · have E : Hid (wchk s m = 0) := (if_neg h1).trans (if_neg h2)
    have h2b : ((m : Int) == 0) = false := beq_eq_false_iff_ne.2 (by omega)
    go_enter Tryd.func10, Tryd.ntmps10
    go_wp2
    go_ret
    exact ⟨ret_int E.out.symm, box_below _ _⟩

set_option maxHeartbeats 400000 in
theorem wordRef_any (sa : Option Addr) (s sc : Nat) (la : Option Addr) (m lc : Nat) (w : World) (hs : s ≤ 140737488355328) (hm : m ≤ 140737488355328) :
    Calls Tryd.prog 8 #[.agg #[.slice sa s sc, .slice la m lc]] w fun e w' => e = .returned (.int .i64 (wchk s m)) ∧ Below w.heap.size w w' := by
  by_cases h1 : 60 < s
  · have E : Hid (wchk s m = 2) := if_pos (by omega)
    go_enter Tryd.func8, Tryd.ntmps8
    go_wp2
    go_ret
    exact ⟨ret_int E.out.symm, box_below _ _⟩
  by_cases h3 : 60 < s + m
  · have E : Hid (wchk s m = 2) := if_pos h3
    go_enter Tryd.func8, Tryd.ntmps8
    go_wp2
    go_ret
    exact ⟨ret_int E.out.symm, box_below _ _⟩
  by_cases h2 : m = 0
  · have E : Hid (wchk s m = 1) := (if_neg h3).trans (if_pos h2)
    subst h2
    go_enter Tryd.func8, Tryd.ntmps8
    go_wp2
    go_ret
    exact ⟨ret_int E.out.symm, box_below _ _⟩
  · have E : Hid (wchk s m = 0) := (if_neg h3).trans (if_neg h2)
    have h2b : ((m : Int) == 0) = false := beq_eq_false_iff_ne.2 (by omega)
    go_enter Tryd.func8, Tryd.ntmps8
    go_wp2
    go_ret
    exact ⟨ret_int E.out.symm, box_below _ _⟩

set_option maxHeartbeats 1000000 in
theorem atRef_any {sa : Option Addr} {s sc : Nat} {la : Option Addr} {m lc : Nat} {S L : Nat → Int} {w : World} (hw : Wd w sa s la m S L) (h60 : s + m ≤ 60) (hm : 0 < m) (i : Nat) (hi : i ≤ 1000000) :
    Calls Tryd.prog 11 #[.agg #[.slice sa s sc, .slice la m lc], .int .i64 i] w fun e w' => e = .returned (.int .u64 (ltr s m S L i)) ∧ Below w.heap.size w w' := by
  obtain ⟨sb, so, hsa, hsc⟩ := hw.stem
  obtain ⟨lb, lo, hla, hlc⟩ := hw.loop
  obtain rfl := hla hm
  have HS := hid hsc
  have HL := hid hlc
  clear hsc hlc hla hw
  by_cases h1 : i < s
  · obtain rfl := hsa (by omega)
    have hc := HS.out i h1
    have hl : sb < w.heap.size := World.block_lt_of_cell? _ _ hc
    have E : Hid (ltr s m S L i = S i) := ltr_stem h1
    rw [E.out]
    clear hsa
    go_enter Tryd.func11, Tryd.ntmps11
    go_wp2
    go_ret
    exact ⟨rfl, box_below _ _⟩
  by_cases h2 : i < s + m
  · have hc := HL.out (i - s) (by omega)
    have hl : lb < w.heap.size := World.block_lt_of_cell? _ _ hc
    have E : Hid (ltr s m S L i = L (i - s)) := by
      have := ltr_loop (S := S) (L := L) (s := s) (m := m) (i := i - s) (by omega)
      rw [show s + (i - s) = i by omega] at this
      exact this
    rw [E.out]
    have e1 : (i : Int) - s = ((i - s : Nat) : Int) := by omega
    go_enter Tryd.func11, Tryd.ntmps11
    go_wp2
    go_ret
    exact ⟨rfl, box_below _ _⟩
  · have hr := Nat.mod_lt (i - s) hm
    have hc := HL.out ((i - s) % m) hr
    have hl : lb < w.heap.size := World.block_lt_of_cell? _ _ hc
    have E : Hid (ltr s m S L i = L ((i - s) % m)) := ltr_far (by omega)
    rw [E.out]
    have e1 : (i : Int) - s = ((i - s : Nat) : Int) := by omega
    have e2 : ((i - s : Nat) : Int) % (m : Int) = ((i - s) % m : Nat) := by omega
    generalize (i - s) % m = r at *
    go_enter Tryd.func11, Tryd.ntmps11
    go_wp2
    go_quiet (fail)
    go_wp2
    go_ret
    exact ⟨rfl, below_drewN (box_below _ _) _⟩

end Go.Proofs.YtejombhfkobcbaaDoor
