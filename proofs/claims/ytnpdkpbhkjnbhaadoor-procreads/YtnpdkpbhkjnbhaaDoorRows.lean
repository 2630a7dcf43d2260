/-
  NARROWER THAN 'FOR EVERY INPUT', by the rows' own cells (each row's printed sentence says how): ProcReads: laid · ProcBack: laid · ProcAgain: laid.
  DERIVED. THE GIVEN ROWS OF THIS SEAT. 3 by the template 'for every input the law returns true; each argument reads behind the call as it read before'; 0 by the template 'total and deterministic' (their statements: YtnpdkpbhkjnbhaaDoorTotals.lean).
  GIVEN WITH THE SEED: the statements are not yours to turn. If you find one false, say at which input.
  Laid BY PROGRAM, IN A SANDBOX (cutbox-rows.mjs): the forced cells as the released guide's own fill.sh prints them over the translation 623cfcc0b23b2144… (all of the seat's roots in one cut). By AI agents, Wed Nov 11 2026. No macro, syntax, notation, axiom, sorry.
-/
import Derived.Test.YtnpdkpbhkjnbhaaDoorChecked
import GoSem.PinnedTables
import GoSem.Claim
import GoSem.ClaimJoined
import GoSem.ClaimMapViews
import Derived.JoinedTies
import Derived.KernelRfl
namespace Go.Proofs.YtnpdkpbhkjnbhaaDoor
/- THE CELL 'sum', in the pinned program and in every row, IS THE sha256 OF THE DUMP (.gsa) THAT YtnpdkpbhkjnbhaaDoorProg.lean LOADS. Nothing in Lean hashes anything: it is a label: what it is worth is what the hold of that sum in a sandbox is worth. -/
noncomputable def Tryd.pinned : Pinned := { name := "ytnpdkpbhkjnbhaadoor", sum := "623cfcc0b23b21446e1f43fb30c588ac7cc5b495fe48289f7c43a7dc0ced43f2", checked := Tryd.checked }
namespace Rows
def none {H : Type} : Left H := { results := [], args := [] }

/- WHAT THE LISTED PACKAGE-LEVEL VARIABLES READ AS WHEN THE CALL BEGINS. Each datum BY PROGRAM (the guide's laid-datum.mjs) off the statement by which the dump's own 'gosem.cut.vars' lays the variable. In a bare row this is a premise. The card (YtnpdkpbhkjnbhaaDoorCards.lean) ties it to the program's text. -/
def laid_unicode_utf8_acceptRanges {H : Type} : DataW H := .agg [.agg [.lit (.int .u8 128), .lit (.int .u8 191)], .agg [.lit (.int .u8 160), .lit (.int .u8 191)], .agg [.lit (.int .u8 128), .lit (.int .u8 159)], .agg [.lit (.int .u8 144), .lit (.int .u8 191)], .agg [.lit (.int .u8 128), .lit (.int .u8 143)], .agg [.lit (.int .u8 0), .lit (.int .u8 0)], .agg [.lit (.int .u8 0), .lit (.int .u8 0)], .agg [.lit (.int .u8 0), .lit (.int .u8 0)], .agg [.lit (.int .u8 0), .lit (.int .u8 0)], .agg [.lit (.int .u8 0), .lit (.int .u8 0)], .agg [.lit (.int .u8 0), .lit (.int .u8 0)], .agg [.lit (.int .u8 0), .lit (.int .u8 0)], .agg [.lit (.int .u8 0), .lit (.int .u8 0)], .agg [.lit (.int .u8 0), .lit (.int .u8 0)], .agg [.lit (.int .u8 0), .lit (.int .u8 0)], .agg [.lit (.int .u8 0), .lit (.int .u8 0)]]
def laid_watchway_proc_kindWords {H : Type} : DataW H := .agg [.lit (.string []), .lit (.string [115, 116, 97, 114, 116]), .lit (.string [101, 110, 100]), .lit (.string [115, 116, 111, 112]), .lit (.string [116, 97, 115, 107]), .lit (.string [120, 111, 114]), .lit (.string [97, 110, 100]), .lit (.string [111, 114])]
/-- One of Go's own tables, pinned by name: the form's constant. -/
def laid_unicode_utf8_first : DataW Unit := Go.Pinned.utf8First

/-- 'watchlaw.ProcReads': WHATEVER THE INPUT: true; the input reads as it did. -/
def procReadsSpec : ChangeSpec := { name := "procReads", fn := fun _ => fun
  | [d1, d2] => { results := [.lit (.bool true)], args := [d1, d2] }
  | _ => none }
def procReadsRow : OpenClaim := { program := "ytnpdkpbhkjnbhaadoor", sum := "623cfcc0b23b21446e1f43fb30c588ac7cc5b495fe48289f7c43a7dc0ced43f2", func := "watchway/watchlaw.ProcReads", spec := "procReads", inPlace := ["internal/abi.NoEscape", "internal/bytealg.IndexByteString", "internal/bytealg.IndexString", "internal/bytealg.CountString"], unfollowed := true, recurses := true, named := ["watchway/proc.kindWords", "internal/bytealg.MaxLen", "unicode/utf8.first", "unicode/utf8.acceptRanges"], apart := false, laid := [("unicode/utf8.acceptRanges", laid_unicode_utf8_acceptRanges), ("watchway/proc.kindWords", laid_watchway_proc_kindWords), ("unicode/utf8.first", laid_unicode_utf8_first)] }
def ProcReadsSaid : Prop := procReadsRow.holds Tryd.pinned (OpenSpec.ofChange procReadsSpec)

/-- ITS FALSE NEIGHBOUR: 'it returns false'. Refute it at one input. -/
def procReadsWrong : ChangeSpec := { name := "procReads", fn := fun _ => fun
  | [d1, d2] => { results := [.lit (.bool false)], args := [d1, d2] }
  | _ => none }
def ProcReadsWrongFalsely : Prop := procReadsRow.holds Tryd.pinned (OpenSpec.ofChange procReadsWrong)

/-- 'watchkeep.ProcBack': WHATEVER THE INPUT: true; the input reads as it did. -/
def procBackSpec : ChangeSpec := { name := "procBack", fn := fun _ => fun
  | [d] => { results := [.lit (.bool true)], args := [d] }
  | _ => none }
def procBackRow : OpenClaim := { program := "ytnpdkpbhkjnbhaadoor", sum := "623cfcc0b23b21446e1f43fb30c588ac7cc5b495fe48289f7c43a7dc0ced43f2", func := "watchway/watchkeep.ProcBack", spec := "procBack", inPlace := ["internal/abi.NoEscape", "internal/bytealg.IndexByteString", "internal/bytealg.IndexString", "internal/bytealg.CountString"], unfollowed := true, recurses := true, named := ["watchway/proc.kindWords", "internal/bytealg.MaxLen", "unicode/utf8.first", "unicode/utf8.acceptRanges"], apart := false, laid := [("unicode/utf8.acceptRanges", laid_unicode_utf8_acceptRanges), ("watchway/proc.kindWords", laid_watchway_proc_kindWords), ("unicode/utf8.first", laid_unicode_utf8_first)] }
def ProcBackSaid : Prop := procBackRow.holds Tryd.pinned (OpenSpec.ofChange procBackSpec)

/-- ITS FALSE NEIGHBOUR: 'it returns false'. Refute it at one input. -/
def procBackWrong : ChangeSpec := { name := "procBack", fn := fun _ => fun
  | [d] => { results := [.lit (.bool false)], args := [d] }
  | _ => none }
def ProcBackWrongFalsely : Prop := procBackRow.holds Tryd.pinned (OpenSpec.ofChange procBackWrong)

/-- 'watchkeep.ProcAgain': WHATEVER THE INPUT: true; the input reads as it did. -/
def procAgainSpec : ChangeSpec := { name := "procAgain", fn := fun _ => fun
  | [d] => { results := [.lit (.bool true)], args := [d] }
  | _ => none }
def procAgainRow : OpenClaim := { program := "ytnpdkpbhkjnbhaadoor", sum := "623cfcc0b23b21446e1f43fb30c588ac7cc5b495fe48289f7c43a7dc0ced43f2", func := "watchway/watchkeep.ProcAgain", spec := "procAgain", inPlace := ["internal/bytealg.IndexByteString", "internal/bytealg.IndexString", "internal/bytealg.CountString", "internal/abi.NoEscape"], unfollowed := true, recurses := true, named := ["internal/bytealg.MaxLen", "unicode/utf8.first", "unicode/utf8.acceptRanges", "watchway/proc.kindWords"], apart := false, laid := [("unicode/utf8.acceptRanges", laid_unicode_utf8_acceptRanges), ("watchway/proc.kindWords", laid_watchway_proc_kindWords), ("unicode/utf8.first", laid_unicode_utf8_first)] }
def ProcAgainSaid : Prop := procAgainRow.holds Tryd.pinned (OpenSpec.ofChange procAgainSpec)

/-- ITS FALSE NEIGHBOUR: 'it returns false'. Refute it at one input. -/
def procAgainWrong : ChangeSpec := { name := "procAgain", fn := fun _ => fun
  | [d] => { results := [.lit (.bool false)], args := [d] }
  | _ => none }
def ProcAgainWrongFalsely : Prop := procAgainRow.holds Tryd.pinned (OpenSpec.ofChange procAgainWrong)

/- THE SECOND FORM. 'bulk': how many values and letters a reading holds, each counted each time it is reached (what is shared counts as often as it is met; a slice's spare places count too). A statement '..UptoSaid' is the law's where the arguments, and the package variables that the reading takes, are together of bulk at most 1048576: NARROWER than '..Said'. Prove '..Said' where nothing that the law and all that it calls make is longer than what came in: it says more and counts as full. Else prove '..UptoSaid'. A law counts once. -/
mutual
def uptoBulk {H : Type} : DataW H → Nat
  | .lit (.string bytes) => bytes.length + 1
  | .lit _ => 1
  | .nil => 1
  | .ptr d => uptoBulk d + 1
  | .slice elems spare => uptoBulkAll elems + uptoBulkAll spare + 1
  | .agg parts => uptoBulkAll parts + 1
  | .iface _ d => uptoBulk d + 1
  | .map entries => uptoBulkEntries entries + 1
  | .held _ => 1
def uptoBulkAll {H : Type} : List (DataW H) → Nat
  | [] => 0
  | d :: r => uptoBulk d + uptoBulkAll r
def uptoBulkEntries {H : Type} : List (Lit × DataW H) → Nat
  | [] => 0
  | x :: r => uptoBulkEntry x + uptoBulkEntries r
def uptoBulkEntry {H : Type} : Lit × DataW H → Nat
  | (.string bytes, d) => bytes.length + uptoBulk d + 1
  | (_, d) => uptoBulk d + 1
 end
def uptoSmall : (H : Type) → List (DataW H) → Bool := fun _ ds => decide (uptoBulkAll ds ≤ 1048576)
def OpenSpec.upto (s : _root_.Go.ChangeSpec) : _root_.Go.OpenSpec := { _root_.Go.OpenSpec.ofChange s with cond := some uptoSmall }

/-- 'watchlaw.ProcReads', WHERE WHAT IT READS IS OF BULK AT MOST 1048576: true; the input reads as it did. -/
def procReadsUptoRow : OpenClaim := { program := "ytnpdkpbhkjnbhaadoor", sum := "623cfcc0b23b21446e1f43fb30c588ac7cc5b495fe48289f7c43a7dc0ced43f2", func := "watchway/watchlaw.ProcReads", spec := "procReads", inPlace := ["internal/abi.NoEscape", "internal/bytealg.IndexByteString", "internal/bytealg.IndexString", "internal/bytealg.CountString"], unfollowed := true, recurses := true, named := ["watchway/proc.kindWords", "internal/bytealg.MaxLen", "unicode/utf8.first", "unicode/utf8.acceptRanges"], apart := false, laid := [("unicode/utf8.acceptRanges", laid_unicode_utf8_acceptRanges), ("watchway/proc.kindWords", laid_watchway_proc_kindWords), ("unicode/utf8.first", laid_unicode_utf8_first)], narrowed := true }
def ProcReadsUptoSaid : Prop := procReadsUptoRow.holds Tryd.pinned (OpenSpec.upto procReadsSpec)

/-- 'watchkeep.ProcBack', WHERE WHAT IT READS IS OF BULK AT MOST 1048576: true; the input reads as it did. -/
def procBackUptoRow : OpenClaim := { program := "ytnpdkpbhkjnbhaadoor", sum := "623cfcc0b23b21446e1f43fb30c588ac7cc5b495fe48289f7c43a7dc0ced43f2", func := "watchway/watchkeep.ProcBack", spec := "procBack", inPlace := ["internal/abi.NoEscape", "internal/bytealg.IndexByteString", "internal/bytealg.IndexString", "internal/bytealg.CountString"], unfollowed := true, recurses := true, named := ["watchway/proc.kindWords", "internal/bytealg.MaxLen", "unicode/utf8.first", "unicode/utf8.acceptRanges"], apart := false, laid := [("unicode/utf8.acceptRanges", laid_unicode_utf8_acceptRanges), ("watchway/proc.kindWords", laid_watchway_proc_kindWords), ("unicode/utf8.first", laid_unicode_utf8_first)], narrowed := true }
def ProcBackUptoSaid : Prop := procBackUptoRow.holds Tryd.pinned (OpenSpec.upto procBackSpec)

/-- 'watchkeep.ProcAgain', WHERE WHAT IT READS IS OF BULK AT MOST 1048576: true; the input reads as it did. -/
def procAgainUptoRow : OpenClaim := { program := "ytnpdkpbhkjnbhaadoor", sum := "623cfcc0b23b21446e1f43fb30c588ac7cc5b495fe48289f7c43a7dc0ced43f2", func := "watchway/watchkeep.ProcAgain", spec := "procAgain", inPlace := ["internal/bytealg.IndexByteString", "internal/bytealg.IndexString", "internal/bytealg.CountString", "internal/abi.NoEscape"], unfollowed := true, recurses := true, named := ["internal/bytealg.MaxLen", "unicode/utf8.first", "unicode/utf8.acceptRanges", "watchway/proc.kindWords"], apart := false, laid := [("unicode/utf8.acceptRanges", laid_unicode_utf8_acceptRanges), ("watchway/proc.kindWords", laid_watchway_proc_kindWords), ("unicode/utf8.first", laid_unicode_utf8_first)], narrowed := true }
def ProcAgainUptoSaid : Prop := procAgainUptoRow.holds Tryd.pinned (OpenSpec.upto procAgainSpec)

end Rows
end Go.Proofs.YtnpdkpbhkjnbhaaDoor
