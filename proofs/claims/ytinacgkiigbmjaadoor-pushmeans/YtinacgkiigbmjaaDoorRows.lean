/-
  NARROWER THAN 'FOR EVERY INPUT', by the rows' own cells (each row's printed sentence says how): PushNots: loops, laid · PushSlim: loops, laid · PushMeans: loops, laid · PushShapes: loops, laid.
  DERIVED. THE GIVEN ROWS OF THIS SEAT. 4 by the template 'for every input the law returns true; each argument reads behind the call as it read before'; 0 by the template 'total and deterministic' (their statements: YtinacgkiigbmjaaDoorTotals.lean).
  GIVEN WITH THE SEED: the statements are not yours to turn. If you find one false, say at which input.
  Laid BY PROGRAM, IN A SANDBOX (cutbox-rows.mjs): the forced cells as the released guide's own fill.sh prints them over the translation a25f02a8e9145689… (all of the seat's roots in one cut). By AI agents, Wed Nov 11 2026. No macro, syntax, notation, axiom, sorry.
-/
import Derived.Test.YtinacgkiigbmjaaDoorChecked
import GoSem.Claim
import GoSem.ClaimJoined
import GoSem.ClaimMapViews
import Derived.JoinedTies
import Derived.KernelRfl
namespace Go.Proofs.YtinacgkiigbmjaaDoor
/- THE CELL 'sum', in the pinned program and in every row, IS THE sha256 OF THE DUMP (.gsa) THAT YtinacgkiigbmjaaDoorProg.lean LOADS. Nothing in Lean hashes anything: it is a label: what it is worth is what the hold of that sum in a sandbox is worth. -/
noncomputable def Tryd.pinned : Pinned := { name := "ytinacgkiigbmjaadoor", sum := "a25f02a8e91456896744ab616578e92197d6379364a285a8891ad07360c52f70", checked := Tryd.checked }
namespace Rows
def none {H : Type} : Left H := { results := [], args := [] }

/- WHAT THE LISTED PACKAGE-LEVEL VARIABLES READ AS WHEN THE CALL BEGINS. Each datum BY PROGRAM (the guide's laid-datum.mjs) off the statement by which the dump's own 'gosem.cut.vars' lays the variable. In a bare row this is a premise. The card (YtinacgkiigbmjaaDoorCards.lean) ties it to the program's text. -/
def laid_watchway_ltl_kidCounts {H : Type} : DataW H := .agg [.lit (.int .i64 0), .lit (.int .i64 0), .lit (.int .i64 0), .lit (.int .i64 0), .lit (.int .i64 1), .lit (.int .i64 2), .lit (.int .i64 2), .lit (.int .i64 1), .lit (.int .i64 2), .lit (.int .i64 2), .lit (.int .i64 1), .lit (.int .i64 1)]
def laid_watchway_push_opposites {H : Type} : DataW H := .agg [.lit (.int .i64 0), .lit (.int .i64 2), .lit (.int .i64 1), .lit (.int .i64 0), .lit (.int .i64 0), .lit (.int .i64 6), .lit (.int .i64 5), .lit (.int .i64 7), .lit (.int .i64 9), .lit (.int .i64 8), .lit (.int .i64 11), .lit (.int .i64 10)]
def laid_watchway_watchref_opposites {H : Type} : DataW H := .agg [.lit (.int .i64 0), .lit (.int .i64 2), .lit (.int .i64 1), .lit (.int .i64 0), .lit (.int .i64 0), .lit (.int .i64 6), .lit (.int .i64 5), .lit (.int .i64 7), .lit (.int .i64 9), .lit (.int .i64 8), .lit (.int .i64 11), .lit (.int .i64 10)]

/-- 'watchlaw.PushNots': WHATEVER THE INPUT: true; the input reads as it did. -/
def pushNotsSpec : ChangeSpec := { name := "pushNots", fn := fun _ => fun
  | [d] => { results := [.lit (.bool true)], args := [d] }
  | _ => none }
def pushNotsRow : OpenClaim := { program := "ytinacgkiigbmjaadoor", sum := "a25f02a8e91456896744ab616578e92197d6379364a285a8891ad07360c52f70", func := "watchway/watchlaw.PushNots", spec := "pushNots", unfollowed := true, recurses := true, named := ["watchway/ltl.kidCounts", "watchway/push.opposites", "watchway/watchref.opposites"], loops := true, apart := false, laid := [("watchway/ltl.kidCounts", laid_watchway_ltl_kidCounts), ("watchway/push.opposites", laid_watchway_push_opposites), ("watchway/watchref.opposites", laid_watchway_watchref_opposites)] }
def PushNotsSaid : Prop := pushNotsRow.holds Tryd.pinned (OpenSpec.ofChange pushNotsSpec)

/-- ITS FALSE NEIGHBOUR: 'it returns false'. Refute it at one input. -/
def pushNotsWrong : ChangeSpec := { name := "pushNots", fn := fun _ => fun
  | [d] => { results := [.lit (.bool false)], args := [d] }
  | _ => none }
def PushNotsWrongFalsely : Prop := pushNotsRow.holds Tryd.pinned (OpenSpec.ofChange pushNotsWrong)

/-- 'watchlaw.PushSlim': WHATEVER THE INPUT: true; the input reads as it did. -/
def pushSlimSpec : ChangeSpec := { name := "pushSlim", fn := fun _ => fun
  | [d] => { results := [.lit (.bool true)], args := [d] }
  | _ => none }
def pushSlimRow : OpenClaim := { program := "ytinacgkiigbmjaadoor", sum := "a25f02a8e91456896744ab616578e92197d6379364a285a8891ad07360c52f70", func := "watchway/watchlaw.PushSlim", spec := "pushSlim", unfollowed := true, recurses := true, named := ["watchway/ltl.kidCounts", "watchway/push.opposites"], loops := true, apart := false, laid := [("watchway/ltl.kidCounts", laid_watchway_ltl_kidCounts), ("watchway/push.opposites", laid_watchway_push_opposites)] }
def PushSlimSaid : Prop := pushSlimRow.holds Tryd.pinned (OpenSpec.ofChange pushSlimSpec)

/-- ITS FALSE NEIGHBOUR: 'it returns false'. Refute it at one input. -/
def pushSlimWrong : ChangeSpec := { name := "pushSlim", fn := fun _ => fun
  | [d] => { results := [.lit (.bool false)], args := [d] }
  | _ => none }
def PushSlimWrongFalsely : Prop := pushSlimRow.holds Tryd.pinned (OpenSpec.ofChange pushSlimWrong)

/-- 'watchkeep.PushMeans': WHATEVER THE INPUT: true; the input reads as it did. -/
def pushMeansSpec : ChangeSpec := { name := "pushMeans", fn := fun _ => fun
  | [d1, d2] => { results := [.lit (.bool true)], args := [d1, d2] }
  | _ => none }
def pushMeansRow : OpenClaim := { program := "ytinacgkiigbmjaadoor", sum := "a25f02a8e91456896744ab616578e92197d6379364a285a8891ad07360c52f70", func := "watchway/watchkeep.PushMeans", spec := "pushMeans", unfollowed := true, recurses := true, named := ["watchway/ltl.kidCounts", "watchway/push.opposites"], loops := true, apart := false, laid := [("watchway/ltl.kidCounts", laid_watchway_ltl_kidCounts), ("watchway/push.opposites", laid_watchway_push_opposites)] }
def PushMeansSaid : Prop := pushMeansRow.holds Tryd.pinned (OpenSpec.ofChange pushMeansSpec)

/-- ITS FALSE NEIGHBOUR: 'it returns false'. Refute it at one input. -/
def pushMeansWrong : ChangeSpec := { name := "pushMeans", fn := fun _ => fun
  | [d1, d2] => { results := [.lit (.bool false)], args := [d1, d2] }
  | _ => none }
def PushMeansWrongFalsely : Prop := pushMeansRow.holds Tryd.pinned (OpenSpec.ofChange pushMeansWrong)

/-- 'watchkeep.PushShapes': WHATEVER THE INPUT: true; the input reads as it did. -/
def pushShapesSpec : ChangeSpec := { name := "pushShapes", fn := fun _ => fun
  | [d] => { results := [.lit (.bool true)], args := [d] }
  | _ => none }
def pushShapesRow : OpenClaim := { program := "ytinacgkiigbmjaadoor", sum := "a25f02a8e91456896744ab616578e92197d6379364a285a8891ad07360c52f70", func := "watchway/watchkeep.PushShapes", spec := "pushShapes", unfollowed := true, recurses := true, named := ["watchway/ltl.kidCounts", "watchway/push.opposites"], loops := true, apart := false, laid := [("watchway/ltl.kidCounts", laid_watchway_ltl_kidCounts), ("watchway/push.opposites", laid_watchway_push_opposites)] }
def PushShapesSaid : Prop := pushShapesRow.holds Tryd.pinned (OpenSpec.ofChange pushShapesSpec)

/-- ITS FALSE NEIGHBOUR: 'it returns false'. Refute it at one input. -/
def pushShapesWrong : ChangeSpec := { name := "pushShapes", fn := fun _ => fun
  | [d] => { results := [.lit (.bool false)], args := [d] }
  | _ => none }
def PushShapesWrongFalsely : Prop := pushShapesRow.holds Tryd.pinned (OpenSpec.ofChange pushShapesWrong)

/- THE SECOND FORM. 'bulk': how many values and letters a reading holds, each counted each time it is reached (what is shared counts as often as it is met; a slice's spare places count too). A statement '..UptoSaid' is the law's where the arguments, and the package variables that the reading takes, are together of bulk at most 1048576: NARROWER than '..Said'. Prove '..Said' where nothing that the law and all that it calls make is longer than what came in: it says more and counts as full. Else prove '..UptoSaid'. A law counts once. -/
mutual
def uptoBulk {H : Type} : DataW H → Nat
  | .lit (.string bytes) => bytes.length + 1
  | .lit _ => 1
  | .nil => 1
  | .ptr d => uptoBulk d + 1
  | .slice elems spare => uptoBulkAll elems + uptoBulkAll spare + 1
  | .agg parts => uptoBulkAll parts + 1
  | .iface _ d => uptoBulk d + 1
  | .map entries => uptoBulkEntries entries + 1
  | .held _ => 1
def uptoBulkAll {H : Type} : List (DataW H) → Nat
  | [] => 0
  | d :: r => uptoBulk d + uptoBulkAll r
def uptoBulkEntries {H : Type} : List (Lit × DataW H) → Nat
  | [] => 0
  | x :: r => uptoBulkEntry x + uptoBulkEntries r
def uptoBulkEntry {H : Type} : Lit × DataW H → Nat
  | (.string bytes, d) => bytes.length + uptoBulk d + 1
  | (_, d) => uptoBulk d + 1
 end
def uptoSmall : (H : Type) → List (DataW H) → Bool := fun _ ds => decide (uptoBulkAll ds ≤ 1048576)
def OpenSpec.upto (s : _root_.Go.ChangeSpec) : _root_.Go.OpenSpec := { _root_.Go.OpenSpec.ofChange s with cond := some uptoSmall }

/-- 'watchlaw.PushNots', WHERE WHAT IT READS IS OF BULK AT MOST 1048576: true; the input reads as it did. -/
def pushNotsUptoRow : OpenClaim := { program := "ytinacgkiigbmjaadoor", sum := "a25f02a8e91456896744ab616578e92197d6379364a285a8891ad07360c52f70", func := "watchway/watchlaw.PushNots", spec := "pushNots", unfollowed := true, recurses := true, named := ["watchway/ltl.kidCounts", "watchway/push.opposites", "watchway/watchref.opposites"], loops := true, apart := false, laid := [("watchway/ltl.kidCounts", laid_watchway_ltl_kidCounts), ("watchway/push.opposites", laid_watchway_push_opposites), ("watchway/watchref.opposites", laid_watchway_watchref_opposites)], narrowed := true }
def PushNotsUptoSaid : Prop := pushNotsUptoRow.holds Tryd.pinned (OpenSpec.upto pushNotsSpec)

/-- 'watchlaw.PushSlim', WHERE WHAT IT READS IS OF BULK AT MOST 1048576: true; the input reads as it did. -/
def pushSlimUptoRow : OpenClaim := { program := "ytinacgkiigbmjaadoor", sum := "a25f02a8e91456896744ab616578e92197d6379364a285a8891ad07360c52f70", func := "watchway/watchlaw.PushSlim", spec := "pushSlim", unfollowed := true, recurses := true, named := ["watchway/ltl.kidCounts", "watchway/push.opposites"], loops := true, apart := false, laid := [("watchway/ltl.kidCounts", laid_watchway_ltl_kidCounts), ("watchway/push.opposites", laid_watchway_push_opposites)], narrowed := true }
def PushSlimUptoSaid : Prop := pushSlimUptoRow.holds Tryd.pinned (OpenSpec.upto pushSlimSpec)

/-- 'watchkeep.PushMeans', WHERE WHAT IT READS IS OF BULK AT MOST 1048576: true; the input reads as it did. -/
def pushMeansUptoRow : OpenClaim := { program := "ytinacgkiigbmjaadoor", sum := "a25f02a8e91456896744ab616578e92197d6379364a285a8891ad07360c52f70", func := "watchway/watchkeep.PushMeans", spec := "pushMeans", unfollowed := true, recurses := true, named := ["watchway/ltl.kidCounts", "watchway/push.opposites"], loops := true, apart := false, laid := [("watchway/ltl.kidCounts", laid_watchway_ltl_kidCounts), ("watchway/push.opposites", laid_watchway_push_opposites)], narrowed := true }
def PushMeansUptoSaid : Prop := pushMeansUptoRow.holds Tryd.pinned (OpenSpec.upto pushMeansSpec)

/-- 'watchkeep.PushShapes', WHERE WHAT IT READS IS OF BULK AT MOST 1048576: true; the input reads as it did. -/
def pushShapesUptoRow : OpenClaim := { program := "ytinacgkiigbmjaadoor", sum := "a25f02a8e91456896744ab616578e92197d6379364a285a8891ad07360c52f70", func := "watchway/watchkeep.PushShapes", spec := "pushShapes", unfollowed := true, recurses := true, named := ["watchway/ltl.kidCounts", "watchway/push.opposites"], loops := true, apart := false, laid := [("watchway/ltl.kidCounts", laid_watchway_ltl_kidCounts), ("watchway/push.opposites", laid_watchway_push_opposites)], narrowed := true }
def PushShapesUptoSaid : Prop := pushShapesUptoRow.holds Tryd.pinned (OpenSpec.upto pushShapesSpec)

end Rows
end Go.Proofs.YtinacgkiigbmjaaDoor
