/- Rows of letters and of bools in memory; a word; what Check says of one. -/
import Derived.Deep.OwnRows
import Derived.Test.YtgahdclbaifcbaaLaLst
import Derived.Test.YtgahdclbaifcbaaRws
import Derived.Test.YtgahdclbaifcbaaLst
import Derived.Test.YtgahdclbaifcbaaLea
import Derived.Test.YtgahdclbaifcbaaApp
import Derived.Test.YtgahdclbaifcbaaWck
import Derived.Test.YtgahdclbaifcbaaHeld
import Derived.Test.YtgahdclbaifcbaaUnr
import Derived.Test.YtgahdclbaifcbaaSgl
import Derived.Test.YtgahdclbaifcbaaGth
namespace Go.Proofs.Ytgahdclbaifcbaa
open Go.RowKit

theorem RowU.congr {w : World} {a : Option Addr} {n : Nat} {Z Y : Nat → Int} (h : RowU w a n Z) (e : ∀ i, i < n → Z i = Y i) : RowU w a n Y := by
  obtain ⟨b, o, h1, h2⟩ := h
  exact ⟨b, o, h1, fun i hi => by rw [← e i hi]; exact h2 i hi⟩
theorem RowB.congr {w : World} {a : Option Addr} {n : Nat} {Z Y : Nat → Bool} (h : RowB w a n Z) (e : ∀ i, i < n → Z i = Y i) : RowB w a n Y := by
  obtain ⟨b, o, h1, h2⟩ := h
  exact ⟨b, o, h1, fun i hi => by rw [← e i hi]; exact h2 i hi⟩

theorem Wd.below {w w' : World} {sa : Option Addr} {s : Nat} {la : Option Addr} {m : Nat} {S L : Nat → Int} (h : Wd w sa s la m S L) (hb : Below w.heap.size w w') : Wd w' sa s la m S L :=
  ⟨h.stem.below hb, h.loop.below hb, h.s47, h.m47, h.su, h.lu⟩

theorem wchk_zero {s m : Nat} (h : s + m ≤ 60) (hm : 0 < m) : wchk s m = 0 := by
  unfold wchk
  rw [if_neg (by omega), if_neg (by omega)]

end Go.Proofs.Ytgahdclbaifcbaa

