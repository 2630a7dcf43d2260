/- Sets of states as 32 words: add, remove, has; the least bit of a word; what two sets have in common. -/
import Derived.Laws.Bits64b
import Derived.Lib.TrailingZeros
import Derived.Test.YtgahdclbaifcbaaFamJ
namespace Go.Proofs.Ytgahdclbaifcbaa
open Go.RowKit

/-- Is a state in the set of 32 words? -/
def mem (x : Nat → Nat) (s : Nat) : Bool := (x (s / 64)).testBit (s % 64)

def upd (x : Nat → Nat) (i v : Nat) : Nat → Nat := fun j => if j = i then v else x j
def sadd (x : Nat → Nat) (s : Nat) : Nat → Nat := upd x (s / 64) (x (s / 64) ||| 2 ^ (s % 64))
theorem div_mod_64 {s t : Nat} (h1 : t / 64 = s / 64) (h2 : t % 64 = s % 64) : t = s := by omega

theorem mem_add (x : Nat → Nat) (s t : Nat) : mem (sadd x s) t = (decide (t = s) || mem x t) := by
  unfold mem sadd upd
  by_cases h : t / 64 = s / 64
  · rw [if_pos h, Nat.testBit_or, Nat.testBit_two_pow, h]
    by_cases h2 : t % 64 = s % 64
    · have := div_mod_64 h h2
      subst this
      simp
    · have h3 : ¬ t = s := fun e => h2 (by rw [e])
      have h4 : ¬ s % 64 = t % 64 := fun e => h2 e.symm
      simp [h3, h4]
  · have h3 : ¬ t = s := fun e => h (by rw [e])
    rw [if_neg h]
    simp [h3]

theorem pow_lt_64 {k : Nat} (h : k < 64) : 2 ^ k < 18446744073709551616 := by
  have : 2 ^ k < 2 ^ 64 := Nat.pow_lt_pow_right (by decide) h
  exact this

/-- A set of states at block b, from o on. -/
structure St (w : World) (b o : Nat) (x : Nat → Nat) : Prop where
  cell : ∀ i, i < 32 → w.cell? ⟨b, o + i, none⟩ = some (.int .u64 (x i))
  free : ∀ i, i < 32 → w.frozen? ⟨b, o + i, none⟩ = false
  small : ∀ i, i < 32 → x i < 18446744073709551616

theorem wrap_pow {k : Nat} (h : k < 64) : IntKind.u64.wrap (2 ^ k) = ((2 ^ k : Nat) : Int) := by
  have h1 := pow_lt_64 h
  have h2 : ((2 : Int) ^ k) = ((2 ^ k : Nat) : Int) := by simp
  rw [h2, IntKind.wrap_u64]
  generalize 2 ^ k = z at *
  omega

/-- The same memory. -/
structure Sm (w w' : World) : Prop where
  os : w'.os = w.os
  tape : w'.tape = w.tape
  output : w'.output = w.output
  heap : w'.heap = w.heap

theorem Sm.refl (w : World) : Sm w w := ⟨rfl, rfl, rfl, rfl⟩
theorem Sm.drew {u w : World} (h : Sm u w) : Sm u w.drew := ⟨h.os, h.tape, h.output, h.heap⟩
theorem Sm.but {u w : World} (h : Sm u w) (b : Nat) : But b u w := ⟨h.os, h.tape, h.output, by rw [h.heap]; exact Nat.le_refl _, fun k _ _ => by rw [h.heap]⟩
end Go.Proofs.Ytgahdclbaifcbaa

