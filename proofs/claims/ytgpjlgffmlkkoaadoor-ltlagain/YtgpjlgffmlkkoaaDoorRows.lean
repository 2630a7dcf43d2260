/-
  NARROWER THAN 'FOR EVERY INPUT', by the rows' own cells (each row's printed sentence says how): LtlSays: loops, laid · LtlReads: laid · LtlBack: loops, laid · LtlAgain: laid.
  DERIVED. THE GIVEN ROWS OF THIS SEAT. 4 by the template 'for every input the law returns true; each argument reads behind the call as it read before'; 0 by the template 'total and deterministic' (their statements: YtgpjlgffmlkkoaaDoorTotals.lean).
  GIVEN WITH THE SEED: the statements are not yours to turn. If you find one false, say at which input.
  Laid BY PROGRAM, IN A SANDBOX (cutbox-rows.mjs): the forced cells as the released guide's own fill.sh prints them over the translation db661115dc9719ca… (all of the seat's roots in one cut). By AI agents, Wed Nov 11 2026. No macro, syntax, notation, axiom, sorry.
-/
import Derived.Test.YtgpjlgffmlkkoaaDoorChecked
import GoSem.Claim
import GoSem.ClaimJoined
import GoSem.ClaimMapViews
import Derived.JoinedTies
import Derived.KernelRfl
namespace Go.Proofs.YtgpjlgffmlkkoaaDoor
/- THE CELL 'sum', in the pinned program and in every row, IS THE sha256 OF THE DUMP (.gsa) THAT YtgpjlgffmlkkoaaDoorProg.lean LOADS. Nothing in Lean hashes anything: it is a label: what it is worth is what the hold of that sum in a sandbox is worth. -/
noncomputable def Tryd.pinned : Pinned := { name := "ytgpjlgffmlkkoaadoor", sum := "db661115dc9719ca69849e4add359dcfc369325be2e70dbce0a7d0bf11adaba5", checked := Tryd.checked }
namespace Rows
def none {H : Type} : Left H := { results := [], args := [] }

/- WHAT THE LISTED PACKAGE-LEVEL VARIABLES READ AS WHEN THE CALL BEGINS. Each datum BY PROGRAM (the guide's laid-datum.mjs) off the statement by which the dump's own 'gosem.cut.vars' lays the variable. In a bare row this is a premise. The card (YtgpjlgffmlkkoaaDoorCards.lean) ties it to the program's text. -/
def laid_watchway_ltl_kidCounts {H : Type} : DataW H := .agg [.lit (.int .i64 0), .lit (.int .i64 0), .lit (.int .i64 0), .lit (.int .i64 0), .lit (.int .i64 1), .lit (.int .i64 2), .lit (.int .i64 2), .lit (.int .i64 1), .lit (.int .i64 2), .lit (.int .i64 2), .lit (.int .i64 1), .lit (.int .i64 1)]
def laid_watchway_ltl_signs {H : Type} : DataW H := .agg [.lit (.string []), .lit (.string [116, 114, 117, 101]), .lit (.string [102, 97, 108, 115, 101]), .lit (.string []), .lit (.string [33]), .lit (.string [32, 38, 32]), .lit (.string [32, 47, 32]), .lit (.string [88, 32]), .lit (.string [32, 85, 32]), .lit (.string [32, 82, 32]), .lit (.string [70, 32]), .lit (.string [71, 32])]
def laid_errors_errorType {H : Type} : DataW H := .iface "internal/reflectlite.rtype" (.agg [.ptr (.lit (.string [101, 114, 114, 111, 114]))])
def laid_watchway_ltl_errLarge {H : Type} : DataW H := .iface "*errors.errorString" (.ptr (.agg [.lit (.string [116, 111, 111, 32, 108, 111, 110, 103])]))
def laid_watchway_ltl_errDeep {H : Type} : DataW H := .iface "*errors.errorString" (.ptr (.agg [.lit (.string [110, 101, 115, 116, 101, 100, 32, 116, 111, 111, 32, 100, 101, 101, 112])]))
def laid_watchway_ltl_errName {H : Type} : DataW H := .iface "*errors.errorString" (.ptr (.agg [.lit (.string [110, 111, 32, 115, 117, 99, 104, 32, 110, 97, 109, 101])]))
def laid_watchway_ltl_errSyntax {H : Type} : DataW H := .iface "*errors.errorString" (.ptr (.agg [.lit (.string [99, 97, 110, 39, 116, 32, 115, 116, 97, 110, 100, 32, 116, 104, 101, 114, 101])]))

/-- 'watchlaw.LtlSays': WHATEVER THE INPUT: true; the input reads as it did. -/
def ltlSaysSpec : ChangeSpec := { name := "ltlSays", fn := fun _ => fun
  | [d1, d2] => { results := [.lit (.bool true)], args := [d1, d2] }
  | _ => none }
def ltlSaysRow : OpenClaim := { program := "ytgpjlgffmlkkoaadoor", sum := "db661115dc9719ca69849e4add359dcfc369325be2e70dbce0a7d0bf11adaba5", func := "watchway/watchlaw.LtlSays", spec := "ltlSays", inPlace := ["internal/abi.NoEscape"], unfollowed := true, recurses := true, named := ["watchway/ltl.kidCounts", "watchway/ltl.signs"], loops := true, apart := false, laid := [("watchway/ltl.kidCounts", laid_watchway_ltl_kidCounts), ("watchway/ltl.signs", laid_watchway_ltl_signs)] }
def LtlSaysSaid : Prop := ltlSaysRow.holds Tryd.pinned (OpenSpec.ofChange ltlSaysSpec)

/-- ITS FALSE NEIGHBOUR: 'it returns false'. Refute it at one input. -/
def ltlSaysWrong : ChangeSpec := { name := "ltlSays", fn := fun _ => fun
  | [d1, d2] => { results := [.lit (.bool false)], args := [d1, d2] }
  | _ => none }
def LtlSaysWrongFalsely : Prop := ltlSaysRow.holds Tryd.pinned (OpenSpec.ofChange ltlSaysWrong)

/-- 'watchlaw.LtlReads': WHATEVER THE INPUT: true; the input reads as it did. -/
def ltlReadsSpec : ChangeSpec := { name := "ltlReads", fn := fun _ => fun
  | [d1, d2] => { results := [.lit (.bool true)], args := [d1, d2] }
  | _ => none }
def ltlReadsRow : OpenClaim := { program := "ytgpjlgffmlkkoaadoor", sum := "db661115dc9719ca69849e4add359dcfc369325be2e70dbce0a7d0bf11adaba5", func := "watchway/watchlaw.LtlReads", spec := "ltlReads", inPlace := ["internal/reflectlite.ValueOf", "(internal/reflectlite.Value).Type", "(internal/reflectlite.Value).IsNil", "internal/reflectlite.TypeOf", "(internal/reflectlite.Value).Elem", "(internal/reflectlite.Value).Set"], unfollowed := true, recurses := true, named := ["watchway/ltl.errLarge", "watchway/ltl.errName", "watchway/ltl.errSyntax", "watchway/ltl.signs", "watchway/ltl.errDeep", "errors.errorType", "watchway/ltl.kidCounts"], apart := false, laid := [("errors.errorType", laid_errors_errorType), ("watchway/ltl.errLarge", laid_watchway_ltl_errLarge), ("watchway/ltl.errDeep", laid_watchway_ltl_errDeep), ("watchway/ltl.errName", laid_watchway_ltl_errName), ("watchway/ltl.errSyntax", laid_watchway_ltl_errSyntax), ("watchway/ltl.kidCounts", laid_watchway_ltl_kidCounts), ("watchway/ltl.signs", laid_watchway_ltl_signs)] }
def LtlReadsSaid : Prop := ltlReadsRow.holds Tryd.pinned (OpenSpec.ofChange ltlReadsSpec)

/-- ITS FALSE NEIGHBOUR: 'it returns false'. Refute it at one input. -/
def ltlReadsWrong : ChangeSpec := { name := "ltlReads", fn := fun _ => fun
  | [d1, d2] => { results := [.lit (.bool false)], args := [d1, d2] }
  | _ => none }
def LtlReadsWrongFalsely : Prop := ltlReadsRow.holds Tryd.pinned (OpenSpec.ofChange ltlReadsWrong)

/-- 'watchkeep.LtlBack': WHATEVER THE INPUT: true; the input reads as it did. -/
def ltlBackSpec : ChangeSpec := { name := "ltlBack", fn := fun _ => fun
  | [d1, d2] => { results := [.lit (.bool true)], args := [d1, d2] }
  | _ => none }
def ltlBackRow : OpenClaim := { program := "ytgpjlgffmlkkoaadoor", sum := "db661115dc9719ca69849e4add359dcfc369325be2e70dbce0a7d0bf11adaba5", func := "watchway/watchkeep.LtlBack", spec := "ltlBack", inPlace := ["internal/abi.NoEscape", "internal/reflectlite.ValueOf", "(internal/reflectlite.Value).Type", "(internal/reflectlite.Value).IsNil", "internal/reflectlite.TypeOf", "(internal/reflectlite.Value).Elem", "(internal/reflectlite.Value).Set"], unfollowed := true, recurses := true, named := ["watchway/ltl.kidCounts", "watchway/ltl.signs", "watchway/ltl.errLarge", "watchway/ltl.errName", "watchway/ltl.errSyntax", "watchway/ltl.errDeep", "errors.errorType"], loops := true, apart := false, laid := [("errors.errorType", laid_errors_errorType), ("watchway/ltl.errLarge", laid_watchway_ltl_errLarge), ("watchway/ltl.errDeep", laid_watchway_ltl_errDeep), ("watchway/ltl.errName", laid_watchway_ltl_errName), ("watchway/ltl.errSyntax", laid_watchway_ltl_errSyntax), ("watchway/ltl.kidCounts", laid_watchway_ltl_kidCounts), ("watchway/ltl.signs", laid_watchway_ltl_signs)] }
def LtlBackSaid : Prop := ltlBackRow.holds Tryd.pinned (OpenSpec.ofChange ltlBackSpec)

/-- ITS FALSE NEIGHBOUR: 'it returns false'. Refute it at one input. -/
def ltlBackWrong : ChangeSpec := { name := "ltlBack", fn := fun _ => fun
  | [d1, d2] => { results := [.lit (.bool false)], args := [d1, d2] }
  | _ => none }
def LtlBackWrongFalsely : Prop := ltlBackRow.holds Tryd.pinned (OpenSpec.ofChange ltlBackWrong)

/-- 'watchkeep.LtlAgain': WHATEVER THE INPUT: true; the input reads as it did. -/
def ltlAgainSpec : ChangeSpec := { name := "ltlAgain", fn := fun _ => fun
  | [d1, d2] => { results := [.lit (.bool true)], args := [d1, d2] }
  | _ => none }
def ltlAgainRow : OpenClaim := { program := "ytgpjlgffmlkkoaadoor", sum := "db661115dc9719ca69849e4add359dcfc369325be2e70dbce0a7d0bf11adaba5", func := "watchway/watchkeep.LtlAgain", spec := "ltlAgain", inPlace := ["internal/reflectlite.ValueOf", "(internal/reflectlite.Value).Type", "(internal/reflectlite.Value).IsNil", "internal/reflectlite.TypeOf", "(internal/reflectlite.Value).Elem", "(internal/reflectlite.Value).Set", "internal/abi.NoEscape"], unfollowed := true, recurses := true, named := ["watchway/ltl.errLarge", "watchway/ltl.errName", "watchway/ltl.errSyntax", "watchway/ltl.signs", "watchway/ltl.errDeep", "errors.errorType", "watchway/ltl.kidCounts"], apart := false, laid := [("errors.errorType", laid_errors_errorType), ("watchway/ltl.errLarge", laid_watchway_ltl_errLarge), ("watchway/ltl.errDeep", laid_watchway_ltl_errDeep), ("watchway/ltl.errName", laid_watchway_ltl_errName), ("watchway/ltl.errSyntax", laid_watchway_ltl_errSyntax), ("watchway/ltl.kidCounts", laid_watchway_ltl_kidCounts), ("watchway/ltl.signs", laid_watchway_ltl_signs)] }
def LtlAgainSaid : Prop := ltlAgainRow.holds Tryd.pinned (OpenSpec.ofChange ltlAgainSpec)

/-- ITS FALSE NEIGHBOUR: 'it returns false'. Refute it at one input. -/
def ltlAgainWrong : ChangeSpec := { name := "ltlAgain", fn := fun _ => fun
  | [d1, d2] => { results := [.lit (.bool false)], args := [d1, d2] }
  | _ => none }
def LtlAgainWrongFalsely : Prop := ltlAgainRow.holds Tryd.pinned (OpenSpec.ofChange ltlAgainWrong)

/- THE SECOND FORM. 'bulk': how many values and letters a reading holds, each counted each time it is reached (what is shared counts as often as it is met; a slice's spare places count too). A statement '..UptoSaid' is the law's where the arguments, and the package variables that the reading takes, are together of bulk at most 1048576: NARROWER than '..Said'. Prove '..Said' where nothing that the law and all that it calls make is longer than what came in: it says more and counts as full. Else prove '..UptoSaid'. A law counts once. -/
mutual
def uptoBulk {H : Type} : DataW H → Nat
  | .lit (.string bytes) => bytes.length + 1
  | .lit _ => 1
  | .nil => 1
  | .ptr d => uptoBulk d + 1
  | .slice elems spare => uptoBulkAll elems + uptoBulkAll spare + 1
  | .agg parts => uptoBulkAll parts + 1
  | .iface _ d => uptoBulk d + 1
  | .map entries => uptoBulkEntries entries + 1
  | .held _ => 1
def uptoBulkAll {H : Type} : List (DataW H) → Nat
  | [] => 0
  | d :: r => uptoBulk d + uptoBulkAll r
def uptoBulkEntries {H : Type} : List (Lit × DataW H) → Nat
  | [] => 0
  | x :: r => uptoBulkEntry x + uptoBulkEntries r
def uptoBulkEntry {H : Type} : Lit × DataW H → Nat
  | (.string bytes, d) => bytes.length + uptoBulk d + 1
  | (_, d) => uptoBulk d + 1
 end
def uptoSmall : (H : Type) → List (DataW H) → Bool := fun _ ds => decide (uptoBulkAll ds ≤ 1048576)
def OpenSpec.upto (s : _root_.Go.ChangeSpec) : _root_.Go.OpenSpec := { _root_.Go.OpenSpec.ofChange s with cond := some uptoSmall }

/-- 'watchlaw.LtlSays', WHERE WHAT IT READS IS OF BULK AT MOST 1048576: true; the input reads as it did. -/
def ltlSaysUptoRow : OpenClaim := { program := "ytgpjlgffmlkkoaadoor", sum := "db661115dc9719ca69849e4add359dcfc369325be2e70dbce0a7d0bf11adaba5", func := "watchway/watchlaw.LtlSays", spec := "ltlSays", inPlace := ["internal/abi.NoEscape"], unfollowed := true, recurses := true, named := ["watchway/ltl.kidCounts", "watchway/ltl.signs"], loops := true, apart := false, laid := [("watchway/ltl.kidCounts", laid_watchway_ltl_kidCounts), ("watchway/ltl.signs", laid_watchway_ltl_signs)], narrowed := true }
def LtlSaysUptoSaid : Prop := ltlSaysUptoRow.holds Tryd.pinned (OpenSpec.upto ltlSaysSpec)

/-- 'watchlaw.LtlReads', WHERE WHAT IT READS IS OF BULK AT MOST 1048576: true; the input reads as it did. -/
def ltlReadsUptoRow : OpenClaim := { program := "ytgpjlgffmlkkoaadoor", sum := "db661115dc9719ca69849e4add359dcfc369325be2e70dbce0a7d0bf11adaba5", func := "watchway/watchlaw.LtlReads", spec := "ltlReads", inPlace := ["internal/reflectlite.ValueOf", "(internal/reflectlite.Value).Type", "(internal/reflectlite.Value).IsNil", "internal/reflectlite.TypeOf", "(internal/reflectlite.Value).Elem", "(internal/reflectlite.Value).Set"], unfollowed := true, recurses := true, named := ["watchway/ltl.errLarge", "watchway/ltl.errName", "watchway/ltl.errSyntax", "watchway/ltl.signs", "watchway/ltl.errDeep", "errors.errorType", "watchway/ltl.kidCounts"], apart := false, laid := [("errors.errorType", laid_errors_errorType), ("watchway/ltl.errLarge", laid_watchway_ltl_errLarge), ("watchway/ltl.errDeep", laid_watchway_ltl_errDeep), ("watchway/ltl.errName", laid_watchway_ltl_errName), ("watchway/ltl.errSyntax", laid_watchway_ltl_errSyntax), ("watchway/ltl.kidCounts", laid_watchway_ltl_kidCounts), ("watchway/ltl.signs", laid_watchway_ltl_signs)], narrowed := true }
def LtlReadsUptoSaid : Prop := ltlReadsUptoRow.holds Tryd.pinned (OpenSpec.upto ltlReadsSpec)

/-- 'watchkeep.LtlBack', WHERE WHAT IT READS IS OF BULK AT MOST 1048576: true; the input reads as it did. -/
def ltlBackUptoRow : OpenClaim := { program := "ytgpjlgffmlkkoaadoor", sum := "db661115dc9719ca69849e4add359dcfc369325be2e70dbce0a7d0bf11adaba5", func := "watchway/watchkeep.LtlBack", spec := "ltlBack", inPlace := ["internal/abi.NoEscape", "internal/reflectlite.ValueOf", "(internal/reflectlite.Value).Type", "(internal/reflectlite.Value).IsNil", "internal/reflectlite.TypeOf", "(internal/reflectlite.Value).Elem", "(internal/reflectlite.Value).Set"], unfollowed := true, recurses := true, named := ["watchway/ltl.kidCounts", "watchway/ltl.signs", "watchway/ltl.errLarge", "watchway/ltl.errName", "watchway/ltl.errSyntax", "watchway/ltl.errDeep", "errors.errorType"], loops := true, apart := false, laid := [("errors.errorType", laid_errors_errorType), ("watchway/ltl.errLarge", laid_watchway_ltl_errLarge), ("watchway/ltl.errDeep", laid_watchway_ltl_errDeep), ("watchway/ltl.errName", laid_watchway_ltl_errName), ("watchway/ltl.errSyntax", laid_watchway_ltl_errSyntax), ("watchway/ltl.kidCounts", laid_watchway_ltl_kidCounts), ("watchway/ltl.signs", laid_watchway_ltl_signs)], narrowed := true }
def LtlBackUptoSaid : Prop := ltlBackUptoRow.holds Tryd.pinned (OpenSpec.upto ltlBackSpec)

/-- 'watchkeep.LtlAgain', WHERE WHAT IT READS IS OF BULK AT MOST 1048576: true; the input reads as it did. -/
def ltlAgainUptoRow : OpenClaim := { program := "ytgpjlgffmlkkoaadoor", sum := "db661115dc9719ca69849e4add359dcfc369325be2e70dbce0a7d0bf11adaba5", func := "watchway/watchkeep.LtlAgain", spec := "ltlAgain", inPlace := ["internal/reflectlite.ValueOf", "(internal/reflectlite.Value).Type", "(internal/reflectlite.Value).IsNil", "internal/reflectlite.TypeOf", "(internal/reflectlite.Value).Elem", "(internal/reflectlite.Value).Set", "internal/abi.NoEscape"], unfollowed := true, recurses := true, named := ["watchway/ltl.errLarge", "watchway/ltl.errName", "watchway/ltl.errSyntax", "watchway/ltl.signs", "watchway/ltl.errDeep", "errors.errorType", "watchway/ltl.kidCounts"], apart := false, laid := [("errors.errorType", laid_errors_errorType), ("watchway/ltl.errLarge", laid_watchway_ltl_errLarge), ("watchway/ltl.errDeep", laid_watchway_ltl_errDeep), ("watchway/ltl.errName", laid_watchway_ltl_errName), ("watchway/ltl.errSyntax", laid_watchway_ltl_errSyntax), ("watchway/ltl.kidCounts", laid_watchway_ltl_kidCounts), ("watchway/ltl.signs", laid_watchway_ltl_signs)], narrowed := true }
def LtlAgainUptoSaid : Prop := ltlAgainUptoRow.holds Tryd.pinned (OpenSpec.upto ltlAgainSpec)

end Rows
end Go.Proofs.YtgpjlgffmlkkoaaDoor
