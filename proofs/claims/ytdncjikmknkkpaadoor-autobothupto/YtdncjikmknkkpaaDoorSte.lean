/- An automaton in memory; the states with which a letter goes; where one goes on. -/
import Derived.Deep.RegionHeld3
import Derived.Test.YtdncjikmknkkpaaDoorStcJ
import Derived.Test.YtdncjikmknkkpaaDoorRws
namespace Go.Proofs.YtdncjikmknkkpaaDoor
open Go.RowKit

/-- An automaton as it lies in memory: its slices, and what they hold. -/
structure Ax where
  sa : Option Addr
  sn : Nat
  sc : Nat
  na : Option Addr
  G : Nat
  nc : Nat
  ma : Option Addr
  M : Nat
  mc : Nat
  oa : Option Addr
  O : Nat
  oc : Nat
  fa : Option Addr
  K : Nat
  fc : Nat
  S : Nat → Int
  L : Nat → Nat
  Z : Nat → Nat → Int
  Mu : Nat → Nat
  No : Nat → Nat
  FL : Nat → Nat
  FZ : Nat → Nat → Int

def Ax.val (A : Ax) : Value := .agg #[.slice A.sa A.sn A.sc, .slice A.na A.G A.nc, .slice A.ma A.M A.mc, .slice A.oa A.O A.oc, .slice A.fa A.K A.fc]

structure Aw (w : World) (A : Ax) : Prop where
  start : Row w A.sa A.sn A.S
  next : Gr w A.na A.G A.L A.Z
  must : RowU w A.ma A.M (fun i => (A.Mu i : Int))
  nots : RowU w A.oa A.O (fun i => (A.No i : Int))
  fair : Gr w A.fa A.K A.FL A.FZ
  s47 : A.sn ≤ 140737488355328
  g47 : A.G ≤ 140737488355328
  l47 : ∀ r, r < A.G → A.L r ≤ 140737488355328
  m47 : A.M ≤ 140737488355328
  o47 : A.O ≤ 140737488355328
  k47 : A.K ≤ 140737488355328
  f47 : ∀ r, r < A.K → A.FL r ≤ 140737488355328
  mu : ∀ i, i < A.M → A.Mu i < 18446744073709551616
  no : ∀ i, i < A.O → A.No i < 18446744073709551616

theorem Aw.below {w w' : World} {A : Ax} (h : Aw w A) (hb : Below w.heap.size w w') : Aw w' A :=
  ⟨h.start.below hb, h.next.below hb, h.must.below hb, h.nots.below hb, h.fair.below hb, h.s47, h.g47, h.l47, h.m47, h.o47, h.k47, h.f47, h.mu, h.no⟩

theorem cell_alloc1 {w : World} {p : Addr} {v : Value} (o : Obj) (h : w.cell? p = some v) : (w.alloc o).cell? p = some v := below_cell (box_below w o) (Nat.le_refl _) h

/-- Of a row of spots in memory: their states and places. -/
def Sp (w : World) (a : Option Addr) (n : Nat) (l : Nat → Nat × Nat) : Prop :=
  ∃ b, (0 < n → a = some ⟨b, 0, none⟩) ∧ ∀ i, i < n → w.cell? ⟨b, i * 2, none⟩ = some (.int .i64 ((l i).1 : Nat)) ∧ w.cell? ⟨b, i * 2 + 1, none⟩ = some (.int .i64 ((l i).2 : Nat))

theorem Sp.below {w w' : World} {a : Option Addr} {n : Nat} {l : Nat → Nat × Nat} (h : Sp w a n l) (hb : Below w.heap.size w w') : Sp w' a n l := by
  obtain ⟨b, h1, h2⟩ := h
  exact ⟨b, h1, fun i hi => ⟨below_cell hb (Nat.le_refl _) (h2 i hi).1, below_cell hb (Nat.le_refl _) (h2 i hi).2⟩⟩

end Go.Proofs.YtdncjikmknkkpaaDoor

