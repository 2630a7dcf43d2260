/- join, list, setOf. -/
import Derived.Test.YtgahdclbaifcbaaStb
namespace Go.Proofs.Ytgahdclbaifcbaa
open Go.RowKit

theorem mem_zero (s : Nat) : mem (fun _ => 0) s = false := by simp [mem]

end Go.Proofs.Ytgahdclbaifcbaa

