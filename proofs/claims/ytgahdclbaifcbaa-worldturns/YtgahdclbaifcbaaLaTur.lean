/- LassoTurns: SameWord, Least. -/
import Derived.Test.YtgahdclbaifcbaaLaUnr
import Derived.Test.YtgahdclbaifcbaaLaLea2
import Derived.Test.YtgahdclbaifcbaaRws
import Derived.Test.YtgahdclbaifcbaaLst
import Derived.Test.YtgahdclbaifcbaaLea
import Derived.Test.YtgahdclbaifcbaaApp
import Derived.Test.YtgahdclbaifcbaaWck
import Derived.Test.YtgahdclbaifcbaaHeld
import Derived.Test.YtgahdclbaifcbaaUnr
import Derived.Test.YtgahdclbaifcbaaSgl
import Derived.Test.YtgahdclbaifcbaaGth
namespace Go.Proofs.Ytgahdclbaifcbaa
open Go.RowKit

theorem RowU.apart2 {w : World} {a : Option Addr} {n b : Nat} {Z : Nat → Int} {p q : Option Addr} {i j k l : Nat} {t : TypeId} (h : RowU w a n Z) (hn : 0 < n) (hb : w.heap[b]? = some (.cells #[.slice p i j, .slice q k l] t (0, 0))) : ∀ z, a = some z → z.block ≠ b := by
  rintro z rfl
  obtain ⟨c, o, h1, h2⟩ := h
  obtain rfl := Option.some.inj (h1 hn)
  rintro rfl
  have h3 := h2 0 hn
  simp only [World.cell?, hb, Nat.add_zero] at h3
  match o, h3 with
  | 0, h3 => simp at h3
  | 1, h3 => simp at h3
  | o + 2, h3 => simp at h3

theorem RowU.butz {w w' : World} {a : Option Addr} {n b : Nat} {Z : Nat → Int} {p q : Option Addr} {i j k l : Nat} {t : TypeId} (h : RowU w a n Z) (hbut : But b w w') (hb : w.heap[b]? = some (.cells #[.slice p i j, .slice q k l] t (0, 0))) : RowU w' a n Z := by
  by_cases hn : 0 < n
  · exact h.but hbut (h.apart2 hn hb)
  · exact ⟨0, 0, fun h => absurd h hn, fun i hi => by omega⟩

end Go.Proofs.Ytgahdclbaifcbaa

