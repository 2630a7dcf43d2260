/- Rows of letters and of bools in memory; a word; what Check says of one. -/
import Derived.Deep.OwnRows
import Derived.Test.YtdncjikmknkkpaaDoorLst
namespace Go.Proofs.YtdncjikmknkkpaaDoor
open Go.RowKit

/-- In w the slice at a, of n cells, holds the letters Z. -/
def RowU (w : World) (a : Option Addr) (n : Nat) (Z : Nat → Int) : Prop :=
  ∃ b o, (0 < n → a = some ⟨b, o, none⟩) ∧ ∀ i, i < n → w.cell? ⟨b, o + i, none⟩ = some (.int .u64 (Z i))

/-- .. the bools F. -/
def RowB (w : World) (a : Option Addr) (n : Nat) (F : Nat → Bool) : Prop :=
  ∃ b o, (0 < n → a = some ⟨b, o, none⟩) ∧ ∀ i, i < n → w.cell? ⟨b, o + i, none⟩ = some (.bool (F i))

theorem RowU.below {w w' : World} {a : Option Addr} {n : Nat} {Z : Nat → Int} (h : RowU w a n Z) (hb : Below w.heap.size w w') : RowU w' a n Z := by
  obtain ⟨b, o, h1, h2⟩ := h
  exact ⟨b, o, h1, fun i hi => below_cell hb (Nat.le_refl _) (h2 i hi)⟩
theorem RowB.below {w w' : World} {a : Option Addr} {n : Nat} {F : Nat → Bool} (h : RowB w a n F) (hb : Below w.heap.size w w') : RowB w' a n F := by
  obtain ⟨b, o, h1, h2⟩ := h
  exact ⟨b, o, h1, fun i hi => below_cell hb (Nat.le_refl _) (h2 i hi)⟩
theorem RowU.congr {w : World} {a : Option Addr} {n : Nat} {Z Y : Nat → Int} (h : RowU w a n Z) (e : ∀ i, i < n → Z i = Y i) : RowU w a n Y := by
  obtain ⟨b, o, h1, h2⟩ := h
  exact ⟨b, o, h1, fun i hi => by rw [← e i hi]; exact h2 i hi⟩
theorem RowB.congr {w : World} {a : Option Addr} {n : Nat} {Z Y : Nat → Bool} (h : RowB w a n Z) (e : ∀ i, i < n → Z i = Y i) : RowB w a n Y := by
  obtain ⟨b, o, h1, h2⟩ := h
  exact ⟨b, o, h1, fun i hi => by rw [← e i hi]; exact h2 i hi⟩

/-- A word in memory. -/
structure Wd (w : World) (sa : Option Addr) (s : Nat) (la : Option Addr) (m : Nat) (S L : Nat → Int) : Prop where
  stem : RowU w sa s S
  loop : RowU w la m L
  s47 : s ≤ 140737488355328
  m47 : m ≤ 140737488355328
  su : ∀ i, i < s → 0 ≤ S i ∧ S i < 18446744073709551616
  lu : ∀ i, i < m → 0 ≤ L i ∧ L i < 18446744073709551616

theorem Wd.below {w w' : World} {sa : Option Addr} {s : Nat} {la : Option Addr} {m : Nat} {S L : Nat → Int} (h : Wd w sa s la m S L) (hb : Below w.heap.size w w') : Wd w' sa s la m S L :=
  ⟨h.stem.below hb, h.loop.below hb, h.s47, h.m47, h.su, h.lu⟩

theorem Wd.lu64 {w : World} {sa : Option Addr} {s : Nat} {la : Option Addr} {m : Nat} {S L : Nat → Int} (h : Wd w sa s la m S L) (hm : 0 < m) (i : Nat) : 0 ≤ ltr s m S L i ∧ ltr s m S L i < 18446744073709551616 := by
  unfold ltr
  by_cases e : i < s
  · rw [if_pos e]; exact h.su i e
  · rw [if_neg e]; exact h.lu _ (Nat.mod_lt _ hm)

/-- What Check says of a word. -/
def wchk (s m : Nat) : Int := if 60 < s + m then 2 else if m = 0 then 1 else 0

theorem wchk_ok {s m : Nat} (h : wchk s m = 0) : s + m ≤ 60 ∧ 0 < m := by
  unfold wchk at h
  split at h
  · cases h
  · split at h
    · cases h
    · omega
theorem wchk_zero {s m : Nat} (h : s + m ≤ 60) (hm : 0 < m) : wchk s m = 0 := by
  unfold wchk
  rw [if_neg (by omega), if_neg (by omega)]

/-- The atoms of a place. -/
def atm (s m : Nat) (S L : Nat → Int) (i : Nat) (n : Int) : Bool := decide (ltr s m S L i / 2 ^ n.toNat % 2 = 1)

theorem atm_per (s m : Nat) (S L : Nat → Int) (n : Int) : Per s m (fun i => atm s m S L i n) := fun i hi => by
  show atm s m S L (i + m) n = atm s m S L i n
  unfold atm
  rw [ltr_per s m S L i hi]

end Go.Proofs.YtdncjikmknkkpaaDoor

