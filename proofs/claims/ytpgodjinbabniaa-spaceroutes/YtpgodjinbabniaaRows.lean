/-
  No cell of these rows narrows 'for every input' (looked for: loops, veiled, ifaces, maps, wideKeys, modest, calm, conditions, laid).
  DERIVED. THE GIVEN ROWS OF THIS SEAT. 6 by the template 'for every input the law returns true; each argument reads behind the call as it read before'; 0 by the template 'total and deterministic' (their statements: YtpgodjinbabniaaTotals.lean).
  GIVEN WITH THE SEED: the statements are not yours to turn. If you find one false, say at which input.
  Laid BY PROGRAM, IN A SANDBOX (cutbox-rows.mjs): the forced cells as the released guide's own fill.sh prints them over the translation fdc5ab211357b332… (all of the seat's roots in one cut). By AI agents, Wed Nov 11 2026. No macro, syntax, notation, axiom, sorry.
-/
import Derived.Test.YtpgodjinbabniaaChecked
import GoSem.Claim
import GoSem.ClaimJoined
import GoSem.ClaimMapViews
import Derived.JoinedTies
import Derived.KernelRfl
namespace Go.Proofs.Ytpgodjinbabniaa
/- THE CELL 'sum', in the pinned program and in every row, IS THE sha256 OF THE DUMP (.gsa) THAT YtpgodjinbabniaaProg.lean LOADS. Nothing in Lean hashes anything: it is a label: what it is worth is what the hold of that sum in a sandbox is worth. -/
noncomputable def Try.pinned : Pinned := { name := "ytpgodjinbabniaa", sum := "fdc5ab211357b332cb9b7609753dd3448ddc5ed0e68d5620aa9bdc0355018680", checked := Try.checked }
namespace Rows
def none {H : Type} : Left H := { results := [], args := [] }

/-- 'watchlaw.GameSays': WHATEVER THE INPUT: true; the input reads as it did. -/
def gameSaysSpec : ChangeSpec := { name := "gameSays", fn := fun _ => fun
  | [d1, d2, d3] => { results := [.lit (.bool true)], args := [d1, d2, d3] }
  | _ => none }
def gameSaysRow : OpenClaim := { program := "ytpgodjinbabniaa", sum := "fdc5ab211357b332cb9b7609753dd3448ddc5ed0e68d5620aa9bdc0355018680", func := "watchway/watchlaw.GameSays", spec := "gameSays", unfollowed := true, recurses := true, plainKeys := false, apart := false }
def GameSaysSaid : Prop := gameSaysRow.holds Try.pinned (OpenSpec.ofChange gameSaysSpec)

/-- ITS FALSE NEIGHBOUR: 'it returns false'. Refute it at one input. -/
def gameSaysWrong : ChangeSpec := { name := "gameSays", fn := fun _ => fun
  | [d1, d2, d3] => { results := [.lit (.bool false)], args := [d1, d2, d3] }
  | _ => none }
def GameSaysWrongFalsely : Prop := gameSaysRow.holds Try.pinned (OpenSpec.ofChange gameSaysWrong)

/-- 'watchlaw.GamePlays': WHATEVER THE INPUT: true; the input reads as it did. -/
def gamePlaysSpec : ChangeSpec := { name := "gamePlays", fn := fun _ => fun
  | [d1, d2] => { results := [.lit (.bool true)], args := [d1, d2] }
  | _ => none }
def gamePlaysRow : OpenClaim := { program := "ytpgodjinbabniaa", sum := "fdc5ab211357b332cb9b7609753dd3448ddc5ed0e68d5620aa9bdc0355018680", func := "watchway/watchlaw.GamePlays", spec := "gamePlays", unfollowed := true, recurses := true, plainKeys := false, apart := false }
def GamePlaysSaid : Prop := gamePlaysRow.holds Try.pinned (OpenSpec.ofChange gamePlaysSpec)

/-- ITS FALSE NEIGHBOUR: 'it returns false'. Refute it at one input. -/
def gamePlaysWrong : ChangeSpec := { name := "gamePlays", fn := fun _ => fun
  | [d1, d2] => { results := [.lit (.bool false)], args := [d1, d2] }
  | _ => none }
def GamePlaysWrongFalsely : Prop := gamePlaysRow.holds Try.pinned (OpenSpec.ofChange gamePlaysWrong)

/-- 'watchlaw.SpaceSays': WHATEVER THE INPUT: true; the input reads as it did. -/
def spaceSaysSpec : ChangeSpec := { name := "spaceSays", fn := fun _ => fun
  | [d1, d2, d3] => { results := [.lit (.bool true)], args := [d1, d2, d3] }
  | _ => none }
def spaceSaysRow : OpenClaim := { program := "ytpgodjinbabniaa", sum := "fdc5ab211357b332cb9b7609753dd3448ddc5ed0e68d5620aa9bdc0355018680", func := "watchway/watchlaw.SpaceSays", spec := "spaceSays", unfollowed := true, recurses := true, plainKeys := false, apart := false }
def SpaceSaysSaid : Prop := spaceSaysRow.holds Try.pinned (OpenSpec.ofChange spaceSaysSpec)

/-- ITS FALSE NEIGHBOUR: 'it returns false'. Refute it at one input. -/
def spaceSaysWrong : ChangeSpec := { name := "spaceSays", fn := fun _ => fun
  | [d1, d2, d3] => { results := [.lit (.bool false)], args := [d1, d2, d3] }
  | _ => none }
def SpaceSaysWrongFalsely : Prop := spaceSaysRow.holds Try.pinned (OpenSpec.ofChange spaceSaysWrong)

/-- 'watchlaw.SpaceRoutes': WHATEVER THE INPUT: true; the input reads as it did. -/
def spaceRoutesSpec : ChangeSpec := { name := "spaceRoutes", fn := fun _ => fun
  | [d1, d2, d3] => { results := [.lit (.bool true)], args := [d1, d2, d3] }
  | _ => none }
def spaceRoutesRow : OpenClaim := { program := "ytpgodjinbabniaa", sum := "fdc5ab211357b332cb9b7609753dd3448ddc5ed0e68d5620aa9bdc0355018680", func := "watchway/watchlaw.SpaceRoutes", spec := "spaceRoutes", unfollowed := true, recurses := true, plainKeys := false, apart := false }
def SpaceRoutesSaid : Prop := spaceRoutesRow.holds Try.pinned (OpenSpec.ofChange spaceRoutesSpec)

/-- ITS FALSE NEIGHBOUR: 'it returns false'. Refute it at one input. -/
def spaceRoutesWrong : ChangeSpec := { name := "spaceRoutes", fn := fun _ => fun
  | [d1, d2, d3] => { results := [.lit (.bool false)], args := [d1, d2, d3] }
  | _ => none }
def SpaceRoutesWrongFalsely : Prop := spaceRoutesRow.holds Try.pinned (OpenSpec.ofChange spaceRoutesWrong)

/-- 'watchkeep.GameTokens': WHATEVER THE INPUT: true; the input reads as it did. -/
def gameTokensSpec : ChangeSpec := { name := "gameTokens", fn := fun _ => fun
  | [d1, d2] => { results := [.lit (.bool true)], args := [d1, d2] }
  | _ => none }
def gameTokensRow : OpenClaim := { program := "ytpgodjinbabniaa", sum := "fdc5ab211357b332cb9b7609753dd3448ddc5ed0e68d5620aa9bdc0355018680", func := "watchway/watchkeep.GameTokens", spec := "gameTokens", unfollowed := true, recurses := true, plainKeys := false, apart := false }
def GameTokensSaid : Prop := gameTokensRow.holds Try.pinned (OpenSpec.ofChange gameTokensSpec)

/-- ITS FALSE NEIGHBOUR: 'it returns false'. Refute it at one input. -/
def gameTokensWrong : ChangeSpec := { name := "gameTokens", fn := fun _ => fun
  | [d1, d2] => { results := [.lit (.bool false)], args := [d1, d2] }
  | _ => none }
def GameTokensWrongFalsely : Prop := gameTokensRow.holds Try.pinned (OpenSpec.ofChange gameTokensWrong)

/-- 'watchkeep.GameSwaps': WHATEVER THE INPUT: true; the input reads as it did. -/
def gameSwapsSpec : ChangeSpec := { name := "gameSwaps", fn := fun _ => fun
  | [d1, d2, d3, d4] => { results := [.lit (.bool true)], args := [d1, d2, d3, d4] }
  | _ => none }
def gameSwapsRow : OpenClaim := { program := "ytpgodjinbabniaa", sum := "fdc5ab211357b332cb9b7609753dd3448ddc5ed0e68d5620aa9bdc0355018680", func := "watchway/watchkeep.GameSwaps", spec := "gameSwaps", unfollowed := true, recurses := true, plainKeys := false, apart := false }
def GameSwapsSaid : Prop := gameSwapsRow.holds Try.pinned (OpenSpec.ofChange gameSwapsSpec)

/-- ITS FALSE NEIGHBOUR: 'it returns false'. Refute it at one input. -/
def gameSwapsWrong : ChangeSpec := { name := "gameSwaps", fn := fun _ => fun
  | [d1, d2, d3, d4] => { results := [.lit (.bool false)], args := [d1, d2, d3, d4] }
  | _ => none }
def GameSwapsWrongFalsely : Prop := gameSwapsRow.holds Try.pinned (OpenSpec.ofChange gameSwapsWrong)

/- THE SECOND FORM. 'bulk': how many values and letters a reading holds, each counted each time it is reached (what is shared counts as often as it is met; a slice's spare places count too). A statement '..UptoSaid' is the law's where the arguments, and the package variables that the reading takes, are together of bulk at most 1048576: NARROWER than '..Said'. Prove '..Said' where nothing that the law and all that it calls make is longer than what came in: it says more and counts as full. Else prove '..UptoSaid'. A law counts once. -/
mutual
def uptoBulk {H : Type} : DataW H → Nat
  | .lit (.string bytes) => bytes.length + 1
  | .lit _ => 1
  | .nil => 1
  | .ptr d => uptoBulk d + 1
  | .slice elems spare => uptoBulkAll elems + uptoBulkAll spare + 1
  | .agg parts => uptoBulkAll parts + 1
  | .iface _ d => uptoBulk d + 1
  | .map entries => uptoBulkEntries entries + 1
  | .held _ => 1
def uptoBulkAll {H : Type} : List (DataW H) → Nat
  | [] => 0
  | d :: r => uptoBulk d + uptoBulkAll r
def uptoBulkEntries {H : Type} : List (Lit × DataW H) → Nat
  | [] => 0
  | x :: r => uptoBulkEntry x + uptoBulkEntries r
def uptoBulkEntry {H : Type} : Lit × DataW H → Nat
  | (.string bytes, d) => bytes.length + uptoBulk d + 1
  | (_, d) => uptoBulk d + 1
 end
def uptoSmall : (H : Type) → List (DataW H) → Bool := fun _ ds => decide (uptoBulkAll ds ≤ 1048576)
def OpenSpec.upto (s : _root_.Go.ChangeSpec) : _root_.Go.OpenSpec := { _root_.Go.OpenSpec.ofChange s with cond := some uptoSmall }

/-- 'watchlaw.GameSays', WHERE WHAT IT READS IS OF BULK AT MOST 1048576: true; the input reads as it did. -/
def gameSaysUptoRow : OpenClaim := { program := "ytpgodjinbabniaa", sum := "fdc5ab211357b332cb9b7609753dd3448ddc5ed0e68d5620aa9bdc0355018680", func := "watchway/watchlaw.GameSays", spec := "gameSays", unfollowed := true, recurses := true, plainKeys := false, apart := false, narrowed := true }
def GameSaysUptoSaid : Prop := gameSaysUptoRow.holds Try.pinned (OpenSpec.upto gameSaysSpec)

/-- 'watchlaw.GamePlays', WHERE WHAT IT READS IS OF BULK AT MOST 1048576: true; the input reads as it did. -/
def gamePlaysUptoRow : OpenClaim := { program := "ytpgodjinbabniaa", sum := "fdc5ab211357b332cb9b7609753dd3448ddc5ed0e68d5620aa9bdc0355018680", func := "watchway/watchlaw.GamePlays", spec := "gamePlays", unfollowed := true, recurses := true, plainKeys := false, apart := false, narrowed := true }
def GamePlaysUptoSaid : Prop := gamePlaysUptoRow.holds Try.pinned (OpenSpec.upto gamePlaysSpec)

/-- 'watchlaw.SpaceSays', WHERE WHAT IT READS IS OF BULK AT MOST 1048576: true; the input reads as it did. -/
def spaceSaysUptoRow : OpenClaim := { program := "ytpgodjinbabniaa", sum := "fdc5ab211357b332cb9b7609753dd3448ddc5ed0e68d5620aa9bdc0355018680", func := "watchway/watchlaw.SpaceSays", spec := "spaceSays", unfollowed := true, recurses := true, plainKeys := false, apart := false, narrowed := true }
def SpaceSaysUptoSaid : Prop := spaceSaysUptoRow.holds Try.pinned (OpenSpec.upto spaceSaysSpec)

/-- 'watchlaw.SpaceRoutes', WHERE WHAT IT READS IS OF BULK AT MOST 1048576: true; the input reads as it did. -/
def spaceRoutesUptoRow : OpenClaim := { program := "ytpgodjinbabniaa", sum := "fdc5ab211357b332cb9b7609753dd3448ddc5ed0e68d5620aa9bdc0355018680", func := "watchway/watchlaw.SpaceRoutes", spec := "spaceRoutes", unfollowed := true, recurses := true, plainKeys := false, apart := false, narrowed := true }
def SpaceRoutesUptoSaid : Prop := spaceRoutesUptoRow.holds Try.pinned (OpenSpec.upto spaceRoutesSpec)

/-- 'watchkeep.GameTokens', WHERE WHAT IT READS IS OF BULK AT MOST 1048576: true; the input reads as it did. -/
def gameTokensUptoRow : OpenClaim := { program := "ytpgodjinbabniaa", sum := "fdc5ab211357b332cb9b7609753dd3448ddc5ed0e68d5620aa9bdc0355018680", func := "watchway/watchkeep.GameTokens", spec := "gameTokens", unfollowed := true, recurses := true, plainKeys := false, apart := false, narrowed := true }
def GameTokensUptoSaid : Prop := gameTokensUptoRow.holds Try.pinned (OpenSpec.upto gameTokensSpec)

/-- 'watchkeep.GameSwaps', WHERE WHAT IT READS IS OF BULK AT MOST 1048576: true; the input reads as it did. -/
def gameSwapsUptoRow : OpenClaim := { program := "ytpgodjinbabniaa", sum := "fdc5ab211357b332cb9b7609753dd3448ddc5ed0e68d5620aa9bdc0355018680", func := "watchway/watchkeep.GameSwaps", spec := "gameSwaps", unfollowed := true, recurses := true, plainKeys := false, apart := false, narrowed := true }
def GameSwapsUptoSaid : Prop := gameSwapsUptoRow.holds Try.pinned (OpenSpec.upto gameSwapsSpec)

end Rows
end Go.Proofs.Ytpgodjinbabniaa
