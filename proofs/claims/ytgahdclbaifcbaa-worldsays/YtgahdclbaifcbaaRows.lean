/-
  No cell of these rows narrows 'for every input' (looked for: loops, veiled, ifaces, maps, wideKeys, modest, calm, conditions, laid).
  DERIVED. THE GIVEN ROWS OF THIS SEAT. 4 by the template 'for every input the law returns true; each argument reads behind the call as it read before'; 0 by the template 'total and deterministic' (their statements: YtgahdclbaifcbaaTotals.lean).
  GIVEN WITH THE SEED: the statements are not yours to turn. If you find one false, say at which input.
  Laid BY PROGRAM, IN A SANDBOX (cutbox-rows.mjs): the forced cells as the released guide's own fill.sh prints them over the translation cc0717442ce80a30… (all of the seat's roots in one cut). By AI agents, Wed Nov 11 2026. No macro, syntax, notation, axiom, sorry.
-/
import Derived.Test.YtgahdclbaifcbaaChecked
import GoSem.Claim
import GoSem.ClaimJoined
import GoSem.ClaimMapViews
import Derived.JoinedTies
import Derived.KernelRfl
namespace Go.Proofs.Ytgahdclbaifcbaa
/- THE CELL 'sum', in the pinned program and in every row, IS THE sha256 OF THE DUMP (.gsa) THAT YtgahdclbaifcbaaProg.lean LOADS. Nothing in Lean hashes anything: it is a label: what it is worth is what the hold of that sum in a sandbox is worth. -/
noncomputable def Try.pinned : Pinned := { name := "ytgahdclbaifcbaa", sum := "cc0717442ce80a30fcc66646fa91b161aaadf13176a902ef0f17813fce4a7d07", checked := Try.checked }
namespace Rows
def none {H : Type} : Left H := { results := [], args := [] }

/-- 'watchlaw.WorldSays': WHATEVER THE INPUT: true; the input reads as it did. -/
def worldSaysSpec : ChangeSpec := { name := "worldSays", fn := fun _ => fun
  | [d] => { results := [.lit (.bool true)], args := [d] }
  | _ => none }
def worldSaysRow : OpenClaim := { program := "ytgahdclbaifcbaa", sum := "cc0717442ce80a30fcc66646fa91b161aaadf13176a902ef0f17813fce4a7d07", func := "watchway/watchlaw.WorldSays", spec := "worldSays", unfollowed := true, recurses := true, apart := false }
def WorldSaysSaid : Prop := worldSaysRow.holds Try.pinned (OpenSpec.ofChange worldSaysSpec)

/-- ITS FALSE NEIGHBOUR: 'it returns false'. Refute it at one input. -/
def worldSaysWrong : ChangeSpec := { name := "worldSays", fn := fun _ => fun
  | [d] => { results := [.lit (.bool false)], args := [d] }
  | _ => none }
def WorldSaysWrongFalsely : Prop := worldSaysRow.holds Try.pinned (OpenSpec.ofChange worldSaysWrong)

/-- 'watchlaw.WorldPaths': WHATEVER THE INPUT: true; the input reads as it did. -/
def worldPathsSpec : ChangeSpec := { name := "worldPaths", fn := fun _ => fun
  | [d1, d2] => { results := [.lit (.bool true)], args := [d1, d2] }
  | _ => none }
def worldPathsRow : OpenClaim := { program := "ytgahdclbaifcbaa", sum := "cc0717442ce80a30fcc66646fa91b161aaadf13176a902ef0f17813fce4a7d07", func := "watchway/watchlaw.WorldPaths", spec := "worldPaths", unfollowed := true, recurses := true, apart := false }
def WorldPathsSaid : Prop := worldPathsRow.holds Try.pinned (OpenSpec.ofChange worldPathsSpec)

/-- ITS FALSE NEIGHBOUR: 'it returns false'. Refute it at one input. -/
def worldPathsWrong : ChangeSpec := { name := "worldPaths", fn := fun _ => fun
  | [d1, d2] => { results := [.lit (.bool false)], args := [d1, d2] }
  | _ => none }
def WorldPathsWrongFalsely : Prop := worldPathsRow.holds Try.pinned (OpenSpec.ofChange worldPathsWrong)

/-- 'watchkeep.WorldFair': WHATEVER THE INPUT: true; the input reads as it did. -/
def worldFairSpec : ChangeSpec := { name := "worldFair", fn := fun _ => fun
  | [d] => { results := [.lit (.bool true)], args := [d] }
  | _ => none }
def worldFairRow : OpenClaim := { program := "ytgahdclbaifcbaa", sum := "cc0717442ce80a30fcc66646fa91b161aaadf13176a902ef0f17813fce4a7d07", func := "watchway/watchkeep.WorldFair", spec := "worldFair", unfollowed := true, recurses := true, apart := false }
def WorldFairSaid : Prop := worldFairRow.holds Try.pinned (OpenSpec.ofChange worldFairSpec)

/-- ITS FALSE NEIGHBOUR: 'it returns false'. Refute it at one input. -/
def worldFairWrong : ChangeSpec := { name := "worldFair", fn := fun _ => fun
  | [d] => { results := [.lit (.bool false)], args := [d] }
  | _ => none }
def WorldFairWrongFalsely : Prop := worldFairRow.holds Try.pinned (OpenSpec.ofChange worldFairWrong)

/-- 'watchkeep.WorldTurns': WHATEVER THE INPUT: true; the input reads as it did. -/
def worldTurnsSpec : ChangeSpec := { name := "worldTurns", fn := fun _ => fun
  | [d1, d2, d3] => { results := [.lit (.bool true)], args := [d1, d2, d3] }
  | _ => none }
def worldTurnsRow : OpenClaim := { program := "ytgahdclbaifcbaa", sum := "cc0717442ce80a30fcc66646fa91b161aaadf13176a902ef0f17813fce4a7d07", func := "watchway/watchkeep.WorldTurns", spec := "worldTurns", unfollowed := true, recurses := true, apart := false }
def WorldTurnsSaid : Prop := worldTurnsRow.holds Try.pinned (OpenSpec.ofChange worldTurnsSpec)

/-- ITS FALSE NEIGHBOUR: 'it returns false'. Refute it at one input. -/
def worldTurnsWrong : ChangeSpec := { name := "worldTurns", fn := fun _ => fun
  | [d1, d2, d3] => { results := [.lit (.bool false)], args := [d1, d2, d3] }
  | _ => none }
def WorldTurnsWrongFalsely : Prop := worldTurnsRow.holds Try.pinned (OpenSpec.ofChange worldTurnsWrong)

/- THE SECOND FORM. 'bulk': how many values and letters a reading holds, each counted each time it is reached (what is shared counts as often as it is met; a slice's spare places count too). A statement '..UptoSaid' is the law's where the arguments, and the package variables that the reading takes, are together of bulk at most 1048576: NARROWER than '..Said'. Prove '..Said' where nothing that the law and all that it calls make is longer than what came in: it says more and counts as full. Else prove '..UptoSaid'. A law counts once. -/
mutual
def uptoBulk {H : Type} : DataW H → Nat
  | .lit (.string bytes) => bytes.length + 1
  | .lit _ => 1
  | .nil => 1
  | .ptr d => uptoBulk d + 1
  | .slice elems spare => uptoBulkAll elems + uptoBulkAll spare + 1
  | .agg parts => uptoBulkAll parts + 1
  | .iface _ d => uptoBulk d + 1
  | .map entries => uptoBulkEntries entries + 1
  | .held _ => 1
def uptoBulkAll {H : Type} : List (DataW H) → Nat
  | [] => 0
  | d :: r => uptoBulk d + uptoBulkAll r
def uptoBulkEntries {H : Type} : List (Lit × DataW H) → Nat
  | [] => 0
  | x :: r => uptoBulkEntry x + uptoBulkEntries r
def uptoBulkEntry {H : Type} : Lit × DataW H → Nat
  | (.string bytes, d) => bytes.length + uptoBulk d + 1
  | (_, d) => uptoBulk d + 1
 end
def uptoSmall : (H : Type) → List (DataW H) → Bool := fun _ ds => decide (uptoBulkAll ds ≤ 1048576)
def OpenSpec.upto (s : _root_.Go.ChangeSpec) : _root_.Go.OpenSpec := { _root_.Go.OpenSpec.ofChange s with cond := some uptoSmall }

/-- 'watchlaw.WorldSays', WHERE WHAT IT READS IS OF BULK AT MOST 1048576: true; the input reads as it did. -/
def worldSaysUptoRow : OpenClaim := { program := "ytgahdclbaifcbaa", sum := "cc0717442ce80a30fcc66646fa91b161aaadf13176a902ef0f17813fce4a7d07", func := "watchway/watchlaw.WorldSays", spec := "worldSays", unfollowed := true, recurses := true, apart := false, narrowed := true }
def WorldSaysUptoSaid : Prop := worldSaysUptoRow.holds Try.pinned (OpenSpec.upto worldSaysSpec)

/-- 'watchlaw.WorldPaths', WHERE WHAT IT READS IS OF BULK AT MOST 1048576: true; the input reads as it did. -/
def worldPathsUptoRow : OpenClaim := { program := "ytgahdclbaifcbaa", sum := "cc0717442ce80a30fcc66646fa91b161aaadf13176a902ef0f17813fce4a7d07", func := "watchway/watchlaw.WorldPaths", spec := "worldPaths", unfollowed := true, recurses := true, apart := false, narrowed := true }
def WorldPathsUptoSaid : Prop := worldPathsUptoRow.holds Try.pinned (OpenSpec.upto worldPathsSpec)

/-- 'watchkeep.WorldFair', WHERE WHAT IT READS IS OF BULK AT MOST 1048576: true; the input reads as it did. -/
def worldFairUptoRow : OpenClaim := { program := "ytgahdclbaifcbaa", sum := "cc0717442ce80a30fcc66646fa91b161aaadf13176a902ef0f17813fce4a7d07", func := "watchway/watchkeep.WorldFair", spec := "worldFair", unfollowed := true, recurses := true, apart := false, narrowed := true }
def WorldFairUptoSaid : Prop := worldFairUptoRow.holds Try.pinned (OpenSpec.upto worldFairSpec)

/-- 'watchkeep.WorldTurns', WHERE WHAT IT READS IS OF BULK AT MOST 1048576: true; the input reads as it did. -/
def worldTurnsUptoRow : OpenClaim := { program := "ytgahdclbaifcbaa", sum := "cc0717442ce80a30fcc66646fa91b161aaadf13176a902ef0f17813fce4a7d07", func := "watchway/watchkeep.WorldTurns", spec := "worldTurns", unfollowed := true, recurses := true, apart := false, narrowed := true }
def WorldTurnsUptoSaid : Prop := worldTurnsUptoRow.holds Try.pinned (OpenSpec.upto worldTurnsSpec)

end Rows
end Go.Proofs.Ytgahdclbaifcbaa
