/-
  NARROWER THAN 'FOR EVERY INPUT', by the rows' own cells (each row's printed sentence says how): LassoSays: loops, laid · LassoLaws: loops, laid · LassoTurns: loops, laid · LassoNext: loops, laid · LassoStutters: loops, laid.
  DERIVED. THE GIVEN ROWS OF THIS SEAT. 5 by the template 'for every input the law returns true; each argument reads behind the call as it read before'; 0 by the template 'total and deterministic' (their statements: YtejombhfkobcbaaDoorTotals.lean).
  GIVEN WITH THE SEED: the statements are not yours to turn. If you find one false, say at which input.
  Laid BY PROGRAM, IN A SANDBOX (cutbox-rows.mjs): the forced cells as the released guide's own fill.sh prints them over the translation 5ac9b5ded3fd2f0a… (all of the seat's roots in one cut). By AI agents, Wed Nov 11 2026. No macro, syntax, notation, axiom, sorry.
-/
import Derived.Test.YtejombhfkobcbaaDoorChecked
import GoSem.Claim
import GoSem.ClaimJoined
import GoSem.ClaimMapViews
import Derived.JoinedTies
import Derived.KernelRfl
namespace Go.Proofs.YtejombhfkobcbaaDoor
/- THE CELL 'sum', in the pinned program and in every row, IS THE sha256 OF THE DUMP (.gsa) THAT YtejombhfkobcbaaDoorProg.lean LOADS. Nothing in Lean hashes anything: it is a label: what it is worth is what the hold of that sum in a sandbox is worth. -/
noncomputable def Tryd.pinned : Pinned := { name := "ytejombhfkobcbaadoor", sum := "5ac9b5ded3fd2f0a88bb53a95290f32e361b2eba01e553bf9c9c8760410c5604", checked := Tryd.checked }
namespace Rows
def none {H : Type} : Left H := { results := [], args := [] }

/- WHAT THE LISTED PACKAGE-LEVEL VARIABLES READ AS WHEN THE CALL BEGINS. Each datum BY PROGRAM (the guide's laid-datum.mjs) off the statement by which the dump's own 'gosem.cut.vars' lays the variable. In a bare row this is a premise. The card (YtejombhfkobcbaaDoorCards.lean) ties it to the program's text. -/
def laid_watchway_ltl_kidCounts {H : Type} : DataW H := .agg [.lit (.int .i64 0), .lit (.int .i64 0), .lit (.int .i64 0), .lit (.int .i64 0), .lit (.int .i64 1), .lit (.int .i64 2), .lit (.int .i64 2), .lit (.int .i64 1), .lit (.int .i64 2), .lit (.int .i64 2), .lit (.int .i64 1), .lit (.int .i64 1)]

/-- 'watchlaw.LassoSays': WHATEVER THE INPUT: true; the input reads as it did. -/
def lassoSaysSpec : ChangeSpec := { name := "lassoSays", fn := fun _ => fun
  | [d1, d2, d3] => { results := [.lit (.bool true)], args := [d1, d2, d3] }
  | _ => none }
def lassoSaysRow : OpenClaim := { program := "ytejombhfkobcbaadoor", sum := "5ac9b5ded3fd2f0a88bb53a95290f32e361b2eba01e553bf9c9c8760410c5604", func := "watchway/watchlaw.LassoSays", spec := "lassoSays", unfollowed := true, recurses := true, named := ["watchway/ltl.kidCounts"], loops := true, apart := false, laid := [("watchway/ltl.kidCounts", laid_watchway_ltl_kidCounts)] }
def LassoSaysSaid : Prop := lassoSaysRow.holds Tryd.pinned (OpenSpec.ofChange lassoSaysSpec)

/-- ITS FALSE NEIGHBOUR: 'it returns false'. Refute it at one input. -/
def lassoSaysWrong : ChangeSpec := { name := "lassoSays", fn := fun _ => fun
  | [d1, d2, d3] => { results := [.lit (.bool false)], args := [d1, d2, d3] }
  | _ => none }
def LassoSaysWrongFalsely : Prop := lassoSaysRow.holds Tryd.pinned (OpenSpec.ofChange lassoSaysWrong)

/-- 'watchkeep.LassoLaws': WHATEVER THE INPUT: true; the input reads as it did. -/
def lassoLawsSpec : ChangeSpec := { name := "lassoLaws", fn := fun _ => fun
  | [d1, d2, d3] => { results := [.lit (.bool true)], args := [d1, d2, d3] }
  | _ => none }
def lassoLawsRow : OpenClaim := { program := "ytejombhfkobcbaadoor", sum := "5ac9b5ded3fd2f0a88bb53a95290f32e361b2eba01e553bf9c9c8760410c5604", func := "watchway/watchkeep.LassoLaws", spec := "lassoLaws", unfollowed := true, recurses := true, named := ["watchway/ltl.kidCounts"], loops := true, apart := false, laid := [("watchway/ltl.kidCounts", laid_watchway_ltl_kidCounts)] }
def LassoLawsSaid : Prop := lassoLawsRow.holds Tryd.pinned (OpenSpec.ofChange lassoLawsSpec)

/-- ITS FALSE NEIGHBOUR: 'it returns false'. Refute it at one input. -/
def lassoLawsWrong : ChangeSpec := { name := "lassoLaws", fn := fun _ => fun
  | [d1, d2, d3] => { results := [.lit (.bool false)], args := [d1, d2, d3] }
  | _ => none }
def LassoLawsWrongFalsely : Prop := lassoLawsRow.holds Tryd.pinned (OpenSpec.ofChange lassoLawsWrong)

/-- 'watchkeep.LassoTurns': WHATEVER THE INPUT: true; the input reads as it did. -/
def lassoTurnsSpec : ChangeSpec := { name := "lassoTurns", fn := fun _ => fun
  | [d1, d2, d3] => { results := [.lit (.bool true)], args := [d1, d2, d3] }
  | _ => none }
def lassoTurnsRow : OpenClaim := { program := "ytejombhfkobcbaadoor", sum := "5ac9b5ded3fd2f0a88bb53a95290f32e361b2eba01e553bf9c9c8760410c5604", func := "watchway/watchkeep.LassoTurns", spec := "lassoTurns", unfollowed := true, recurses := true, named := ["watchway/ltl.kidCounts"], loops := true, apart := false, laid := [("watchway/ltl.kidCounts", laid_watchway_ltl_kidCounts)] }
def LassoTurnsSaid : Prop := lassoTurnsRow.holds Tryd.pinned (OpenSpec.ofChange lassoTurnsSpec)

/-- ITS FALSE NEIGHBOUR: 'it returns false'. Refute it at one input. -/
def lassoTurnsWrong : ChangeSpec := { name := "lassoTurns", fn := fun _ => fun
  | [d1, d2, d3] => { results := [.lit (.bool false)], args := [d1, d2, d3] }
  | _ => none }
def LassoTurnsWrongFalsely : Prop := lassoTurnsRow.holds Tryd.pinned (OpenSpec.ofChange lassoTurnsWrong)

/-- 'watchkeep.LassoNext': WHATEVER THE INPUT: true; the input reads as it did. -/
def lassoNextSpec : ChangeSpec := { name := "lassoNext", fn := fun _ => fun
  | [d1, d2] => { results := [.lit (.bool true)], args := [d1, d2] }
  | _ => none }
def lassoNextRow : OpenClaim := { program := "ytejombhfkobcbaadoor", sum := "5ac9b5ded3fd2f0a88bb53a95290f32e361b2eba01e553bf9c9c8760410c5604", func := "watchway/watchkeep.LassoNext", spec := "lassoNext", unfollowed := true, recurses := true, named := ["watchway/ltl.kidCounts"], loops := true, apart := false, laid := [("watchway/ltl.kidCounts", laid_watchway_ltl_kidCounts)] }
def LassoNextSaid : Prop := lassoNextRow.holds Tryd.pinned (OpenSpec.ofChange lassoNextSpec)

/-- ITS FALSE NEIGHBOUR: 'it returns false'. Refute it at one input. -/
def lassoNextWrong : ChangeSpec := { name := "lassoNext", fn := fun _ => fun
  | [d1, d2] => { results := [.lit (.bool false)], args := [d1, d2] }
  | _ => none }
def LassoNextWrongFalsely : Prop := lassoNextRow.holds Tryd.pinned (OpenSpec.ofChange lassoNextWrong)

/-- 'watchkeep.LassoStutters': WHATEVER THE INPUT: true; the input reads as it did. -/
def lassoStuttersSpec : ChangeSpec := { name := "lassoStutters", fn := fun _ => fun
  | [d1, d2, d3] => { results := [.lit (.bool true)], args := [d1, d2, d3] }
  | _ => none }
def lassoStuttersRow : OpenClaim := { program := "ytejombhfkobcbaadoor", sum := "5ac9b5ded3fd2f0a88bb53a95290f32e361b2eba01e553bf9c9c8760410c5604", func := "watchway/watchkeep.LassoStutters", spec := "lassoStutters", inPlace := ["slices.overlaps[uint64]"], unfollowed := true, recurses := true, named := ["watchway/ltl.kidCounts"], loops := true, apart := false, laid := [("watchway/ltl.kidCounts", laid_watchway_ltl_kidCounts)] }
def LassoStuttersSaid : Prop := lassoStuttersRow.holds Tryd.pinned (OpenSpec.ofChange lassoStuttersSpec)

/-- ITS FALSE NEIGHBOUR: 'it returns false'. Refute it at one input. -/
def lassoStuttersWrong : ChangeSpec := { name := "lassoStutters", fn := fun _ => fun
  | [d1, d2, d3] => { results := [.lit (.bool false)], args := [d1, d2, d3] }
  | _ => none }
def LassoStuttersWrongFalsely : Prop := lassoStuttersRow.holds Tryd.pinned (OpenSpec.ofChange lassoStuttersWrong)

/- THE SECOND FORM. 'bulk': how many values and letters a reading holds, each counted each time it is reached (what is shared counts as often as it is met; a slice's spare places count too). A statement '..UptoSaid' is the law's where the arguments, and the package variables that the reading takes, are together of bulk at most 1048576: NARROWER than '..Said'. Prove '..Said' where nothing that the law and all that it calls make is longer than what came in: it says more and counts as full. Else prove '..UptoSaid'. A law counts once. -/
mutual
def uptoBulk {H : Type} : DataW H → Nat
  | .lit (.string bytes) => bytes.length + 1
  | .lit _ => 1
  | .nil => 1
  | .ptr d => uptoBulk d + 1
  | .slice elems spare => uptoBulkAll elems + uptoBulkAll spare + 1
  | .agg parts => uptoBulkAll parts + 1
  | .iface _ d => uptoBulk d + 1
  | .map entries => uptoBulkEntries entries + 1
  | .held _ => 1
def uptoBulkAll {H : Type} : List (DataW H) → Nat
  | [] => 0
  | d :: r => uptoBulk d + uptoBulkAll r
def uptoBulkEntries {H : Type} : List (Lit × DataW H) → Nat
  | [] => 0
  | x :: r => uptoBulkEntry x + uptoBulkEntries r
def uptoBulkEntry {H : Type} : Lit × DataW H → Nat
  | (.string bytes, d) => bytes.length + uptoBulk d + 1
  | (_, d) => uptoBulk d + 1
 end
def uptoSmall : (H : Type) → List (DataW H) → Bool := fun _ ds => decide (uptoBulkAll ds ≤ 1048576)
def OpenSpec.upto (s : _root_.Go.ChangeSpec) : _root_.Go.OpenSpec := { _root_.Go.OpenSpec.ofChange s with cond := some uptoSmall }

/-- 'watchlaw.LassoSays', WHERE WHAT IT READS IS OF BULK AT MOST 1048576: true; the input reads as it did. -/
def lassoSaysUptoRow : OpenClaim := { program := "ytejombhfkobcbaadoor", sum := "5ac9b5ded3fd2f0a88bb53a95290f32e361b2eba01e553bf9c9c8760410c5604", func := "watchway/watchlaw.LassoSays", spec := "lassoSays", unfollowed := true, recurses := true, named := ["watchway/ltl.kidCounts"], loops := true, apart := false, laid := [("watchway/ltl.kidCounts", laid_watchway_ltl_kidCounts)], narrowed := true }
def LassoSaysUptoSaid : Prop := lassoSaysUptoRow.holds Tryd.pinned (OpenSpec.upto lassoSaysSpec)

/-- 'watchkeep.LassoLaws', WHERE WHAT IT READS IS OF BULK AT MOST 1048576: true; the input reads as it did. -/
def lassoLawsUptoRow : OpenClaim := { program := "ytejombhfkobcbaadoor", sum := "5ac9b5ded3fd2f0a88bb53a95290f32e361b2eba01e553bf9c9c8760410c5604", func := "watchway/watchkeep.LassoLaws", spec := "lassoLaws", unfollowed := true, recurses := true, named := ["watchway/ltl.kidCounts"], loops := true, apart := false, laid := [("watchway/ltl.kidCounts", laid_watchway_ltl_kidCounts)], narrowed := true }
def LassoLawsUptoSaid : Prop := lassoLawsUptoRow.holds Tryd.pinned (OpenSpec.upto lassoLawsSpec)

/-- 'watchkeep.LassoTurns', WHERE WHAT IT READS IS OF BULK AT MOST 1048576: true; the input reads as it did. -/
def lassoTurnsUptoRow : OpenClaim := { program := "ytejombhfkobcbaadoor", sum := "5ac9b5ded3fd2f0a88bb53a95290f32e361b2eba01e553bf9c9c8760410c5604", func := "watchway/watchkeep.LassoTurns", spec := "lassoTurns", unfollowed := true, recurses := true, named := ["watchway/ltl.kidCounts"], loops := true, apart := false, laid := [("watchway/ltl.kidCounts", laid_watchway_ltl_kidCounts)], narrowed := true }
def LassoTurnsUptoSaid : Prop := lassoTurnsUptoRow.holds Tryd.pinned (OpenSpec.upto lassoTurnsSpec)

/-- 'watchkeep.LassoNext', WHERE WHAT IT READS IS OF BULK AT MOST 1048576: true; the input reads as it did. -/
def lassoNextUptoRow : OpenClaim := { program := "ytejombhfkobcbaadoor", sum := "5ac9b5ded3fd2f0a88bb53a95290f32e361b2eba01e553bf9c9c8760410c5604", func := "watchway/watchkeep.LassoNext", spec := "lassoNext", unfollowed := true, recurses := true, named := ["watchway/ltl.kidCounts"], loops := true, apart := false, laid := [("watchway/ltl.kidCounts", laid_watchway_ltl_kidCounts)], narrowed := true }
def LassoNextUptoSaid : Prop := lassoNextUptoRow.holds Tryd.pinned (OpenSpec.upto lassoNextSpec)

/-- 'watchkeep.LassoStutters', WHERE WHAT IT READS IS OF BULK AT MOST 1048576: true; the input reads as it did. -/
def lassoStuttersUptoRow : OpenClaim := { program := "ytejombhfkobcbaadoor", sum := "5ac9b5ded3fd2f0a88bb53a95290f32e361b2eba01e553bf9c9c8760410c5604", func := "watchway/watchkeep.LassoStutters", spec := "lassoStutters", inPlace := ["slices.overlaps[uint64]"], unfollowed := true, recurses := true, named := ["watchway/ltl.kidCounts"], loops := true, apart := false, laid := [("watchway/ltl.kidCounts", laid_watchway_ltl_kidCounts)], narrowed := true }
def LassoStuttersUptoSaid : Prop := lassoStuttersUptoRow.holds Tryd.pinned (OpenSpec.upto lassoStuttersSpec)

end Rows
end Go.Proofs.YtejombhfkobcbaaDoor
