/-
  No cell of these rows narrows 'for every input' (looked for: loops, veiled, ifaces, maps, wideKeys, modest, calm, conditions, laid).
  DERIVED. THE GIVEN ROWS OF THIS SEAT. 6 by the template 'for every input the law returns true; each argument reads behind the call as it read before'; 0 by the template 'total and deterministic' (their statements: YtjfanphbjngfeaaTotals.lean).
  GIVEN WITH THE SEED: the statements are not yours to turn. If you find one false, say at which input.
  Laid BY PROGRAM, IN A SANDBOX (cutbox-rows.mjs): the forced cells as the released guide's own fill.sh prints them over the translation 0b93b2674383d697… (all of the seat's roots in one cut). By AI agents, Wed Nov 11 2026. No macro, syntax, notation, axiom, sorry.
-/
import Derived.Test.YtjfanphbjngfeaaChecked
import GoSem.Claim
import GoSem.ClaimJoined
import GoSem.ClaimMapViews
import Derived.JoinedTies
import Derived.KernelRfl
namespace Go.Proofs.Ytjfanphbjngfeaa
/- THE CELL 'sum', in the pinned program and in every row, IS THE sha256 OF THE DUMP (.gsa) THAT YtjfanphbjngfeaaProg.lean LOADS. Nothing in Lean hashes anything: it is a label: what it is worth is what the hold of that sum in a sandbox is worth. -/
noncomputable def Try.pinned : Pinned := { name := "ytjfanphbjngfeaa", sum := "0b93b2674383d6978fcc382cbc91d1a3f57990a2910306bd095d1a3a45426cb4", checked := Try.checked }
namespace Rows
def none {H : Type} : Left H := { results := [], args := [] }

/-- 'watchlaw.SccTurns': WHATEVER THE INPUT: true; the input reads as it did. -/
def sccTurnsSpec : ChangeSpec := { name := "sccTurns", fn := fun _ => fun
  | [d] => { results := [.lit (.bool true)], args := [d] }
  | _ => none }
def sccTurnsRow : OpenClaim := { program := "ytjfanphbjngfeaa", sum := "0b93b2674383d6978fcc382cbc91d1a3f57990a2910306bd095d1a3a45426cb4", func := "watchway/watchlaw.SccTurns", spec := "sccTurns", unfollowed := true, recurses := true, apart := false }
def SccTurnsSaid : Prop := sccTurnsRow.holds Try.pinned (OpenSpec.ofChange sccTurnsSpec)

/-- ITS FALSE NEIGHBOUR: 'it returns false'. Refute it at one input. -/
def sccTurnsWrong : ChangeSpec := { name := "sccTurns", fn := fun _ => fun
  | [d] => { results := [.lit (.bool false)], args := [d] }
  | _ => none }
def SccTurnsWrongFalsely : Prop := sccTurnsRow.holds Try.pinned (OpenSpec.ofChange sccTurnsWrong)

/-- 'watchlaw.SccReaches': WHATEVER THE INPUT: true; the input reads as it did. -/
def sccReachesSpec : ChangeSpec := { name := "sccReaches", fn := fun _ => fun
  | [d1, d2] => { results := [.lit (.bool true)], args := [d1, d2] }
  | _ => none }
def sccReachesRow : OpenClaim := { program := "ytjfanphbjngfeaa", sum := "0b93b2674383d6978fcc382cbc91d1a3f57990a2910306bd095d1a3a45426cb4", func := "watchway/watchlaw.SccReaches", spec := "sccReaches", unfollowed := true, recurses := true, apart := false }
def SccReachesSaid : Prop := sccReachesRow.holds Try.pinned (OpenSpec.ofChange sccReachesSpec)

/-- ITS FALSE NEIGHBOUR: 'it returns false'. Refute it at one input. -/
def sccReachesWrong : ChangeSpec := { name := "sccReaches", fn := fun _ => fun
  | [d1, d2] => { results := [.lit (.bool false)], args := [d1, d2] }
  | _ => none }
def SccReachesWrongFalsely : Prop := sccReachesRow.holds Try.pinned (OpenSpec.ofChange sccReachesWrong)

/-- 'watchlaw.SccWays': WHATEVER THE INPUT: true; the input reads as it did. -/
def sccWaysSpec : ChangeSpec := { name := "sccWays", fn := fun _ => fun
  | [d1, d2, d3] => { results := [.lit (.bool true)], args := [d1, d2, d3] }
  | _ => none }
def sccWaysRow : OpenClaim := { program := "ytjfanphbjngfeaa", sum := "0b93b2674383d6978fcc382cbc91d1a3f57990a2910306bd095d1a3a45426cb4", func := "watchway/watchlaw.SccWays", spec := "sccWays", unfollowed := true, recurses := true, apart := false }
def SccWaysSaid : Prop := sccWaysRow.holds Try.pinned (OpenSpec.ofChange sccWaysSpec)

/-- ITS FALSE NEIGHBOUR: 'it returns false'. Refute it at one input. -/
def sccWaysWrong : ChangeSpec := { name := "sccWays", fn := fun _ => fun
  | [d1, d2, d3] => { results := [.lit (.bool false)], args := [d1, d2, d3] }
  | _ => none }
def SccWaysWrongFalsely : Prop := sccWaysRow.holds Try.pinned (OpenSpec.ofChange sccWaysWrong)

/-- 'watchkeep.SccParts': WHATEVER THE INPUT: true; the input reads as it did. -/
def sccPartsSpec : ChangeSpec := { name := "sccParts", fn := fun _ => fun
  | [d] => { results := [.lit (.bool true)], args := [d] }
  | _ => none }
def sccPartsRow : OpenClaim := { program := "ytjfanphbjngfeaa", sum := "0b93b2674383d6978fcc382cbc91d1a3f57990a2910306bd095d1a3a45426cb4", func := "watchway/watchkeep.SccParts", spec := "sccParts", unfollowed := true, recurses := true, apart := false }
def SccPartsSaid : Prop := sccPartsRow.holds Try.pinned (OpenSpec.ofChange sccPartsSpec)

/-- ITS FALSE NEIGHBOUR: 'it returns false'. Refute it at one input. -/
def sccPartsWrong : ChangeSpec := { name := "sccParts", fn := fun _ => fun
  | [d] => { results := [.lit (.bool false)], args := [d] }
  | _ => none }
def SccPartsWrongFalsely : Prop := sccPartsRow.holds Try.pinned (OpenSpec.ofChange sccPartsWrong)

/-- 'watchkeep.SccTurned': WHATEVER THE INPUT: true; the input reads as it did. -/
def sccTurnedSpec : ChangeSpec := { name := "sccTurned", fn := fun _ => fun
  | [d1, d2] => { results := [.lit (.bool true)], args := [d1, d2] }
  | _ => none }
def sccTurnedRow : OpenClaim := { program := "ytjfanphbjngfeaa", sum := "0b93b2674383d6978fcc382cbc91d1a3f57990a2910306bd095d1a3a45426cb4", func := "watchway/watchkeep.SccTurned", spec := "sccTurned", unfollowed := true, recurses := true, apart := false }
def SccTurnedSaid : Prop := sccTurnedRow.holds Try.pinned (OpenSpec.ofChange sccTurnedSpec)

/-- ITS FALSE NEIGHBOUR: 'it returns false'. Refute it at one input. -/
def sccTurnedWrong : ChangeSpec := { name := "sccTurned", fn := fun _ => fun
  | [d1, d2] => { results := [.lit (.bool false)], args := [d1, d2] }
  | _ => none }
def SccTurnedWrongFalsely : Prop := sccTurnedRow.holds Try.pinned (OpenSpec.ofChange sccTurnedWrong)

/-- 'watchkeep.SccJoined': WHATEVER THE INPUT: true; the input reads as it did. -/
def sccJoinedSpec : ChangeSpec := { name := "sccJoined", fn := fun _ => fun
  | [d1, d2, d3] => { results := [.lit (.bool true)], args := [d1, d2, d3] }
  | _ => none }
def sccJoinedRow : OpenClaim := { program := "ytjfanphbjngfeaa", sum := "0b93b2674383d6978fcc382cbc91d1a3f57990a2910306bd095d1a3a45426cb4", func := "watchway/watchkeep.SccJoined", spec := "sccJoined", unfollowed := true, recurses := true, apart := false }
def SccJoinedSaid : Prop := sccJoinedRow.holds Try.pinned (OpenSpec.ofChange sccJoinedSpec)

/-- ITS FALSE NEIGHBOUR: 'it returns false'. Refute it at one input. -/
def sccJoinedWrong : ChangeSpec := { name := "sccJoined", fn := fun _ => fun
  | [d1, d2, d3] => { results := [.lit (.bool false)], args := [d1, d2, d3] }
  | _ => none }
def SccJoinedWrongFalsely : Prop := sccJoinedRow.holds Try.pinned (OpenSpec.ofChange sccJoinedWrong)

/- THE SECOND FORM. 'bulk': how many values and letters a reading holds, each counted each time it is reached (what is shared counts as often as it is met; a slice's spare places count too). A statement '..UptoSaid' is the law's where the arguments, and the package variables that the reading takes, are together of bulk at most 1048576: NARROWER than '..Said'. Prove '..Said' where nothing that the law and all that it calls make is longer than what came in: it says more and counts as full. Else prove '..UptoSaid'. A law counts once. -/
mutual
def uptoBulk {H : Type} : DataW H → Nat
  | .lit (.string bytes) => bytes.length + 1
  | .lit _ => 1
  | .nil => 1
  | .ptr d => uptoBulk d + 1
  | .slice elems spare => uptoBulkAll elems + uptoBulkAll spare + 1
  | .agg parts => uptoBulkAll parts + 1
  | .iface _ d => uptoBulk d + 1
  | .map entries => uptoBulkEntries entries + 1
  | .held _ => 1
def uptoBulkAll {H : Type} : List (DataW H) → Nat
  | [] => 0
  | d :: r => uptoBulk d + uptoBulkAll r
def uptoBulkEntries {H : Type} : List (Lit × DataW H) → Nat
  | [] => 0
  | x :: r => uptoBulkEntry x + uptoBulkEntries r
def uptoBulkEntry {H : Type} : Lit × DataW H → Nat
  | (.string bytes, d) => bytes.length + uptoBulk d + 1
  | (_, d) => uptoBulk d + 1
 end
def uptoSmall : (H : Type) → List (DataW H) → Bool := fun _ ds => decide (uptoBulkAll ds ≤ 1048576)
def OpenSpec.upto (s : _root_.Go.ChangeSpec) : _root_.Go.OpenSpec := { _root_.Go.OpenSpec.ofChange s with cond := some uptoSmall }

/-- 'watchlaw.SccTurns', WHERE WHAT IT READS IS OF BULK AT MOST 1048576: true; the input reads as it did. -/
def sccTurnsUptoRow : OpenClaim := { program := "ytjfanphbjngfeaa", sum := "0b93b2674383d6978fcc382cbc91d1a3f57990a2910306bd095d1a3a45426cb4", func := "watchway/watchlaw.SccTurns", spec := "sccTurns", unfollowed := true, recurses := true, apart := false, narrowed := true }
def SccTurnsUptoSaid : Prop := sccTurnsUptoRow.holds Try.pinned (OpenSpec.upto sccTurnsSpec)

/-- 'watchlaw.SccReaches', WHERE WHAT IT READS IS OF BULK AT MOST 1048576: true; the input reads as it did. -/
def sccReachesUptoRow : OpenClaim := { program := "ytjfanphbjngfeaa", sum := "0b93b2674383d6978fcc382cbc91d1a3f57990a2910306bd095d1a3a45426cb4", func := "watchway/watchlaw.SccReaches", spec := "sccReaches", unfollowed := true, recurses := true, apart := false, narrowed := true }
def SccReachesUptoSaid : Prop := sccReachesUptoRow.holds Try.pinned (OpenSpec.upto sccReachesSpec)

/-- 'watchlaw.SccWays', WHERE WHAT IT READS IS OF BULK AT MOST 1048576: true; the input reads as it did. -/
def sccWaysUptoRow : OpenClaim := { program := "ytjfanphbjngfeaa", sum := "0b93b2674383d6978fcc382cbc91d1a3f57990a2910306bd095d1a3a45426cb4", func := "watchway/watchlaw.SccWays", spec := "sccWays", unfollowed := true, recurses := true, apart := false, narrowed := true }
def SccWaysUptoSaid : Prop := sccWaysUptoRow.holds Try.pinned (OpenSpec.upto sccWaysSpec)

/-- 'watchkeep.SccParts', WHERE WHAT IT READS IS OF BULK AT MOST 1048576: true; the input reads as it did. -/
def sccPartsUptoRow : OpenClaim := { program := "ytjfanphbjngfeaa", sum := "0b93b2674383d6978fcc382cbc91d1a3f57990a2910306bd095d1a3a45426cb4", func := "watchway/watchkeep.SccParts", spec := "sccParts", unfollowed := true, recurses := true, apart := false, narrowed := true }
def SccPartsUptoSaid : Prop := sccPartsUptoRow.holds Try.pinned (OpenSpec.upto sccPartsSpec)

/-- 'watchkeep.SccTurned', WHERE WHAT IT READS IS OF BULK AT MOST 1048576: true; the input reads as it did. -/
def sccTurnedUptoRow : OpenClaim := { program := "ytjfanphbjngfeaa", sum := "0b93b2674383d6978fcc382cbc91d1a3f57990a2910306bd095d1a3a45426cb4", func := "watchway/watchkeep.SccTurned", spec := "sccTurned", unfollowed := true, recurses := true, apart := false, narrowed := true }
def SccTurnedUptoSaid : Prop := sccTurnedUptoRow.holds Try.pinned (OpenSpec.upto sccTurnedSpec)

/-- 'watchkeep.SccJoined', WHERE WHAT IT READS IS OF BULK AT MOST 1048576: true; the input reads as it did. -/
def sccJoinedUptoRow : OpenClaim := { program := "ytjfanphbjngfeaa", sum := "0b93b2674383d6978fcc382cbc91d1a3f57990a2910306bd095d1a3a45426cb4", func := "watchway/watchkeep.SccJoined", spec := "sccJoined", unfollowed := true, recurses := true, apart := false, narrowed := true }
def SccJoinedUptoSaid : Prop := sccJoinedUptoRow.holds Try.pinned (OpenSpec.upto sccJoinedSpec)

end Rows
end Go.Proofs.Ytjfanphbjngfeaa
