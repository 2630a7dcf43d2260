/- What a formula means at a place of an endless word: by all places, and by so many as a word that goes round has. -/
import Derived.Test.YtgahdclbaifcbaaLaFml
import Derived.Test.YtgahdclbaifcbaaRws
import Derived.Test.YtgahdclbaifcbaaLst
import Derived.Test.YtgahdclbaifcbaaLea
import Derived.Test.YtgahdclbaifcbaaApp
import Derived.Test.YtgahdclbaifcbaaWck
import Derived.Test.YtgahdclbaifcbaaHeld
import Derived.Test.YtgahdclbaifcbaaUnr
import Derived.Test.YtgahdclbaifcbaaSgl
import Derived.Test.YtgahdclbaifcbaaGth
namespace Go.Proofs.Ytgahdclbaifcbaa
open Go.RowKit

/-- Does g come within d places, f holding ahead of it? -/
def unt (f g : Nat → Bool) : Nat → Nat → Bool
  | 0, _ => false
  | d + 1, i => g i || (f i && unt f g d (i + 1))

/-- The same for LRelease. -/
def rls (f g : Nat → Bool) (d i : Nat) : Bool := !unt (fun k => !f k) (fun k => !g k) d i

def hbF (d : Nat) (A : Nat → Int → Bool) (t : Fml) (r : Nat → Nat → Bool) (i : Nat) : Bool :=
  if t.kind = 1 then true else if t.kind = 3 then A i t.num else if t.kind = 4 then !r 0 i else if t.kind = 5 then r 0 i && r 1 i else if t.kind = 6 then r 0 i || r 1 i
  else if t.kind = 7 then r 0 (i + 1) else if t.kind = 8 then unt (r 0) (r 1) d i
  else if t.kind = 9 then rls (r 0) (r 1) d i
  else if t.kind = 10 then unt (fun _ => true) (r 0) d i else if t.kind = 11 then rls (fun _ => false) (r 0) d i else false

/-- The same, looking ahead d places. -/
def hb (d : Nat) (A : Nat → Int → Bool) (t : Fml) : Nat → Bool := t.red (fun _ => false) (hbF d A)

/-- From s on it comes again every m places. -/
def Per {α : Type} (s m : Nat) (f : Nat → α) : Prop := ∀ i, s ≤ i → f (i + m) = f i

end Go.Proofs.Ytgahdclbaifcbaa

