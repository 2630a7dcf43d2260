/-
  No cell of these rows narrows 'for every input' (looked for: loops, veiled, ifaces, maps, wideKeys, modest, calm, conditions, laid).
  DERIVED. THE GIVEN ROWS OF THIS SEAT. 6 by the template 'for every input the law returns true; each argument reads behind the call as it read before'; 0 by the template 'total and deterministic' (their statements: YtpgodjinbabniabTotals.lean).
  GIVEN WITH THE SEED: the statements are not yours to turn. If you find one false, say at which input.
  Laid BY PROGRAM, IN A SANDBOX (cutbox-rows.mjs): the forced cells as the released guide's own fill.sh prints them over the translation 9e81567a7c8aa07b… (all of the seat's roots in one cut). By AI agents, Wed Nov 11 2026. No macro, syntax, notation, axiom, sorry.
-/
import Derived.Test.YtpgodjinbabniabChecked
import GoSem.Claim
import GoSem.ClaimJoined
import GoSem.ClaimMapViews
import Derived.JoinedTies
import Derived.KernelRfl
namespace Go.Proofs.Ytpgodjinbabniab
/- THE CELL 'sum', in the pinned program and in every row, IS THE sha256 OF THE DUMP (.gsa) THAT YtpgodjinbabniabProg.lean LOADS. Nothing in Lean hashes anything: it is a label: what it is worth is what the hold of that sum in a sandbox is worth. -/
noncomputable def Try.pinned : Pinned := { name := "ytpgodjinbabniab", sum := "9e81567a7c8aa07bbdf8c44f0c1e69ab71eb57674c018d6e0ea30928048cd864", checked := Try.checked }
namespace Rows
def none {H : Type} : Left H := { results := [], args := [] }

/-- 'watchkeep.GameFires': WHATEVER THE INPUT: true; the input reads as it did. -/
def gameFiresSpec : ChangeSpec := { name := "gameFires", fn := fun _ => fun
  | [d1, d2] => { results := [.lit (.bool true)], args := [d1, d2] }
  | _ => none }
def gameFiresRow : OpenClaim := { program := "ytpgodjinbabniab", sum := "9e81567a7c8aa07bbdf8c44f0c1e69ab71eb57674c018d6e0ea30928048cd864", func := "watchway/watchkeep.GameFires", spec := "gameFires", unfollowed := true, recurses := true, plainKeys := false, apart := false }
def GameFiresSaid : Prop := gameFiresRow.holds Try.pinned (OpenSpec.ofChange gameFiresSpec)

/-- ITS FALSE NEIGHBOUR: 'it returns false'. Refute it at one input. -/
def gameFiresWrong : ChangeSpec := { name := "gameFires", fn := fun _ => fun
  | [d1, d2] => { results := [.lit (.bool false)], args := [d1, d2] }
  | _ => none }
def GameFiresWrongFalsely : Prop := gameFiresRow.holds Try.pinned (OpenSpec.ofChange gameFiresWrong)

/-- 'watchkeep.SpaceWalks': WHATEVER THE INPUT: true; the input reads as it did. -/
def spaceWalksSpec : ChangeSpec := { name := "spaceWalks", fn := fun _ => fun
  | [d1, d2, d3, d4] => { results := [.lit (.bool true)], args := [d1, d2, d3, d4] }
  | _ => none }
def spaceWalksRow : OpenClaim := { program := "ytpgodjinbabniab", sum := "9e81567a7c8aa07bbdf8c44f0c1e69ab71eb57674c018d6e0ea30928048cd864", func := "watchway/watchkeep.SpaceWalks", spec := "spaceWalks", unfollowed := true, recurses := true, plainKeys := false, apart := false }
def SpaceWalksSaid : Prop := spaceWalksRow.holds Try.pinned (OpenSpec.ofChange spaceWalksSpec)

/-- ITS FALSE NEIGHBOUR: 'it returns false'. Refute it at one input. -/
def spaceWalksWrong : ChangeSpec := { name := "spaceWalks", fn := fun _ => fun
  | [d1, d2, d3, d4] => { results := [.lit (.bool false)], args := [d1, d2, d3, d4] }
  | _ => none }
def SpaceWalksWrongFalsely : Prop := spaceWalksRow.holds Try.pinned (OpenSpec.ofChange spaceWalksWrong)

/-- 'watchkeep.SpaceCounts': WHATEVER THE INPUT: true; the input reads as it did. -/
def spaceCountsSpec : ChangeSpec := { name := "spaceCounts", fn := fun _ => fun
  | [d1, d2, d3] => { results := [.lit (.bool true)], args := [d1, d2, d3] }
  | _ => none }
def spaceCountsRow : OpenClaim := { program := "ytpgodjinbabniab", sum := "9e81567a7c8aa07bbdf8c44f0c1e69ab71eb57674c018d6e0ea30928048cd864", func := "watchway/watchkeep.SpaceCounts", spec := "spaceCounts", unfollowed := true, recurses := true, plainKeys := false, apart := false }
def SpaceCountsSaid : Prop := spaceCountsRow.holds Try.pinned (OpenSpec.ofChange spaceCountsSpec)

/-- ITS FALSE NEIGHBOUR: 'it returns false'. Refute it at one input. -/
def spaceCountsWrong : ChangeSpec := { name := "spaceCounts", fn := fun _ => fun
  | [d1, d2, d3] => { results := [.lit (.bool false)], args := [d1, d2, d3] }
  | _ => none }
def SpaceCountsWrongFalsely : Prop := spaceCountsRow.holds Try.pinned (OpenSpec.ofChange spaceCountsWrong)

/-- 'watchkeep.SpaceBounds': WHATEVER THE INPUT: true; the input reads as it did. -/
def spaceBoundsSpec : ChangeSpec := { name := "spaceBounds", fn := fun _ => fun
  | [d1, d2, d3, d4, d5] => { results := [.lit (.bool true)], args := [d1, d2, d3, d4, d5] }
  | _ => none }
def spaceBoundsRow : OpenClaim := { program := "ytpgodjinbabniab", sum := "9e81567a7c8aa07bbdf8c44f0c1e69ab71eb57674c018d6e0ea30928048cd864", func := "watchway/watchkeep.SpaceBounds", spec := "spaceBounds", unfollowed := true, recurses := true, plainKeys := false, apart := false }
def SpaceBoundsSaid : Prop := spaceBoundsRow.holds Try.pinned (OpenSpec.ofChange spaceBoundsSpec)

/-- ITS FALSE NEIGHBOUR: 'it returns false'. Refute it at one input. -/
def spaceBoundsWrong : ChangeSpec := { name := "spaceBounds", fn := fun _ => fun
  | [d1, d2, d3, d4, d5] => { results := [.lit (.bool false)], args := [d1, d2, d3, d4, d5] }
  | _ => none }
def SpaceBoundsWrongFalsely : Prop := spaceBoundsRow.holds Try.pinned (OpenSpec.ofChange spaceBoundsWrong)

/-- 'watchkeep.SpaceRoute': WHATEVER THE INPUT: true; the input reads as it did. -/
def spaceRouteSpec : ChangeSpec := { name := "spaceRoute", fn := fun _ => fun
  | [d1, d2, d3] => { results := [.lit (.bool true)], args := [d1, d2, d3] }
  | _ => none }
def spaceRouteRow : OpenClaim := { program := "ytpgodjinbabniab", sum := "9e81567a7c8aa07bbdf8c44f0c1e69ab71eb57674c018d6e0ea30928048cd864", func := "watchway/watchkeep.SpaceRoute", spec := "spaceRoute", unfollowed := true, recurses := true, plainKeys := false, apart := false }
def SpaceRouteSaid : Prop := spaceRouteRow.holds Try.pinned (OpenSpec.ofChange spaceRouteSpec)

/-- ITS FALSE NEIGHBOUR: 'it returns false'. Refute it at one input. -/
def spaceRouteWrong : ChangeSpec := { name := "spaceRoute", fn := fun _ => fun
  | [d1, d2, d3] => { results := [.lit (.bool false)], args := [d1, d2, d3] }
  | _ => none }
def SpaceRouteWrongFalsely : Prop := spaceRouteRow.holds Try.pinned (OpenSpec.ofChange spaceRouteWrong)

/-- 'watchkeep.ProcOwn': WHATEVER THE INPUT: true; the input reads as it did. -/
def procOwnSpec : ChangeSpec := { name := "procOwn", fn := fun _ => fun
  | [d1, d2] => { results := [.lit (.bool true)], args := [d1, d2] }
  | _ => none }
def procOwnRow : OpenClaim := { program := "ytpgodjinbabniab", sum := "9e81567a7c8aa07bbdf8c44f0c1e69ab71eb57674c018d6e0ea30928048cd864", func := "watchway/watchkeep.ProcOwn", spec := "procOwn", unfollowed := true, recurses := true, plainKeys := false, apart := false }
def ProcOwnSaid : Prop := procOwnRow.holds Try.pinned (OpenSpec.ofChange procOwnSpec)

/-- ITS FALSE NEIGHBOUR: 'it returns false'. Refute it at one input. -/
def procOwnWrong : ChangeSpec := { name := "procOwn", fn := fun _ => fun
  | [d1, d2] => { results := [.lit (.bool false)], args := [d1, d2] }
  | _ => none }
def ProcOwnWrongFalsely : Prop := procOwnRow.holds Try.pinned (OpenSpec.ofChange procOwnWrong)

/- THE SECOND FORM. 'bulk': how many values and letters a reading holds, each counted each time it is reached (what is shared counts as often as it is met; a slice's spare places count too). A statement '..UptoSaid' is the law's where the arguments, and the package variables that the reading takes, are together of bulk at most 1048576: NARROWER than '..Said'. Prove '..Said' where nothing that the law and all that it calls make is longer than what came in: it says more and counts as full. Else prove '..UptoSaid'. A law counts once. -/
mutual
def uptoBulk {H : Type} : DataW H → Nat
  | .lit (.string bytes) => bytes.length + 1
  | .lit _ => 1
  | .nil => 1
  | .ptr d => uptoBulk d + 1
  | .slice elems spare => uptoBulkAll elems + uptoBulkAll spare + 1
  | .agg parts => uptoBulkAll parts + 1
  | .iface _ d => uptoBulk d + 1
  | .map entries => uptoBulkEntries entries + 1
  | .held _ => 1
def uptoBulkAll {H : Type} : List (DataW H) → Nat
  | [] => 0
  | d :: r => uptoBulk d + uptoBulkAll r
def uptoBulkEntries {H : Type} : List (Lit × DataW H) → Nat
  | [] => 0
  | x :: r => uptoBulkEntry x + uptoBulkEntries r
def uptoBulkEntry {H : Type} : Lit × DataW H → Nat
  | (.string bytes, d) => bytes.length + uptoBulk d + 1
  | (_, d) => uptoBulk d + 1
 end
def uptoSmall : (H : Type) → List (DataW H) → Bool := fun _ ds => decide (uptoBulkAll ds ≤ 1048576)
def OpenSpec.upto (s : _root_.Go.ChangeSpec) : _root_.Go.OpenSpec := { _root_.Go.OpenSpec.ofChange s with cond := some uptoSmall }

/-- 'watchkeep.GameFires', WHERE WHAT IT READS IS OF BULK AT MOST 1048576: true; the input reads as it did. -/
def gameFiresUptoRow : OpenClaim := { program := "ytpgodjinbabniab", sum := "9e81567a7c8aa07bbdf8c44f0c1e69ab71eb57674c018d6e0ea30928048cd864", func := "watchway/watchkeep.GameFires", spec := "gameFires", unfollowed := true, recurses := true, plainKeys := false, apart := false, narrowed := true }
def GameFiresUptoSaid : Prop := gameFiresUptoRow.holds Try.pinned (OpenSpec.upto gameFiresSpec)

/-- 'watchkeep.SpaceWalks', WHERE WHAT IT READS IS OF BULK AT MOST 1048576: true; the input reads as it did. -/
def spaceWalksUptoRow : OpenClaim := { program := "ytpgodjinbabniab", sum := "9e81567a7c8aa07bbdf8c44f0c1e69ab71eb57674c018d6e0ea30928048cd864", func := "watchway/watchkeep.SpaceWalks", spec := "spaceWalks", unfollowed := true, recurses := true, plainKeys := false, apart := false, narrowed := true }
def SpaceWalksUptoSaid : Prop := spaceWalksUptoRow.holds Try.pinned (OpenSpec.upto spaceWalksSpec)

/-- 'watchkeep.SpaceCounts', WHERE WHAT IT READS IS OF BULK AT MOST 1048576: true; the input reads as it did. -/
def spaceCountsUptoRow : OpenClaim := { program := "ytpgodjinbabniab", sum := "9e81567a7c8aa07bbdf8c44f0c1e69ab71eb57674c018d6e0ea30928048cd864", func := "watchway/watchkeep.SpaceCounts", spec := "spaceCounts", unfollowed := true, recurses := true, plainKeys := false, apart := false, narrowed := true }
def SpaceCountsUptoSaid : Prop := spaceCountsUptoRow.holds Try.pinned (OpenSpec.upto spaceCountsSpec)

/-- 'watchkeep.SpaceBounds', WHERE WHAT IT READS IS OF BULK AT MOST 1048576: true; the input reads as it did. -/
def spaceBoundsUptoRow : OpenClaim := { program := "ytpgodjinbabniab", sum := "9e81567a7c8aa07bbdf8c44f0c1e69ab71eb57674c018d6e0ea30928048cd864", func := "watchway/watchkeep.SpaceBounds", spec := "spaceBounds", unfollowed := true, recurses := true, plainKeys := false, apart := false, narrowed := true }
def SpaceBoundsUptoSaid : Prop := spaceBoundsUptoRow.holds Try.pinned (OpenSpec.upto spaceBoundsSpec)

/-- 'watchkeep.SpaceRoute', WHERE WHAT IT READS IS OF BULK AT MOST 1048576: true; the input reads as it did. -/
def spaceRouteUptoRow : OpenClaim := { program := "ytpgodjinbabniab", sum := "9e81567a7c8aa07bbdf8c44f0c1e69ab71eb57674c018d6e0ea30928048cd864", func := "watchway/watchkeep.SpaceRoute", spec := "spaceRoute", unfollowed := true, recurses := true, plainKeys := false, apart := false, narrowed := true }
def SpaceRouteUptoSaid : Prop := spaceRouteUptoRow.holds Try.pinned (OpenSpec.upto spaceRouteSpec)

/-- 'watchkeep.ProcOwn', WHERE WHAT IT READS IS OF BULK AT MOST 1048576: true; the input reads as it did. -/
def procOwnUptoRow : OpenClaim := { program := "ytpgodjinbabniab", sum := "9e81567a7c8aa07bbdf8c44f0c1e69ab71eb57674c018d6e0ea30928048cd864", func := "watchway/watchkeep.ProcOwn", spec := "procOwn", unfollowed := true, recurses := true, plainKeys := false, apart := false, narrowed := true }
def ProcOwnUptoSaid : Prop := procOwnUptoRow.holds Try.pinned (OpenSpec.upto procOwnSpec)

end Rows
end Go.Proofs.Ytpgodjinbabniab
