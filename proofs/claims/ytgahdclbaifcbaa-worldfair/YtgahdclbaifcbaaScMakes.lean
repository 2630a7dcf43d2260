/- A region that draws its order and makes several blocks: whichever comes first, each lies in a block of its own. -/
import Derived.Deep.Quiet
import Derived.Below
import Derived.Test.YtgahdclbaifcbaaTurn2
namespace Go.Proofs.Ytgahdclbaifcbaa
open Go.RowKit

def updO (o : Nat → Option Nat) (k : Nat) (b : Option Nat) : Nat → Option Nat := fun i => if i = k then b else o i
theorem updO_at (o : Nat → Option Nat) (k : Nat) (b : Option Nat) : updO o k b k = b := by simp [updO]
theorem updO_ne (o : Nat → Option Nat) (k : Nat) (b : Option Nat) (i : Nat) (h : i ≠ k) : updO o k b i = o i := by simp [updO, h]

/-- How many of the first n are not made yet. -/
def nones (o : Nat → Option Nat) : Nat → Nat
  | 0 => 0
  | n + 1 => nones o n + if o n = none then 1 else 0

theorem nones_past (o : Nat → Option Nat) (k : Nat) (b : Option Nat) : ∀ n, n ≤ k → nones (updO o k b) n = nones o n
  | 0, _ => rfl
  | n + 1, h => by simp only [nones]; rw [nones_past o k b n (by omega), updO_ne _ _ _ _ (by omega)]
theorem nones_made (o : Nat → Option Nat) (k b : Nat) (h0 : o k = none) : ∀ n, k < n → nones (updO o k (some b)) n + 1 = nones o n
  | n + 1, h => by
    simp only [nones]
    by_cases e : n = k
    · subst e; rw [nones_past _ _ _ n (Nat.le_refl _), updO_at, if_neg (by simp), if_pos h0]
    · have := nones_made o k b h0 n (by omega); rw [updO_ne _ _ _ _ e]; omega

structure Made (w0 w : World) (n : Nat) (ob : Nat → Obj) (o : Nat → Option Nat) : Prop where
  below : Below w0.heap.size w0 w
  here : ∀ k, k < n → ∀ b, o k = some b → w0.heap.size ≤ b ∧ b < w.heap.size ∧ w.heap[b]? = some (ob k)
  inj : ∀ k j b, k < n → j < n → o k = some b → o j = some b → k = j

theorem Made.next {w0 w : World} {n : Nat} {ob : Nat → Obj} {o : Nat → Option Nat} (h : Made w0 w n ob o) {k : Nat} : Made w0 (w.alloc (ob k)) n ob (updO o k (some w.heap.size)) := by
  have hs := h.below.size
  refine ⟨h.below.alloc hs _, fun j hj b hb => ?_, fun j i b hj hi h1 h2 => ?_⟩
  · by_cases e : j = k
    · subst e
      rw [updO_at] at hb
      cases hb
      exact ⟨hs, by simp, heap_alloc_new w _⟩
    · rw [updO_ne _ _ _ _ e] at hb
      obtain ⟨h1, h2, h3⟩ := h.here j hj b hb
      exact ⟨h1, by simp; omega, by rw [heap_alloc_old w _ h2]; exact h3⟩
  · by_cases e1 : j = k
    · by_cases e2 : i = k
      · rw [e1, e2]
      · rw [e1, updO_at] at h1
        rw [updO_ne _ _ _ _ e2] at h2
        have := (h.here i hi b h2).2.1
        cases h1
        omega
    · rw [updO_ne _ _ _ _ e1] at h1
      by_cases e2 : i = k
      · rw [e2, updO_at] at h2
        have := (h.here j hj b h1).2.1
        cases h2
        omega
      · rw [updO_ne _ _ _ _ e2] at h2
        exact h.inj j i b hj hi h1 h2

/-- Whatever order: if each step makes its own block, and the end is known wherever the blocks lie. -/
theorem wpAny_makes {P : Program} {ops : Array Oper} {Q : Exit → Act → World → Prop} {w0 : World} {n : Nat} {idx : Nat → Nat} {ob : Nat → Obj} {F : (Nat → Option Nat) → Act} {ls : (Nat → Option Nat) → Array Bool} {Fin : (Nat → Option Nat) → Prop}
    (hdec : ∀ o, Fin o ∨ ¬ Fin o)
    (hrun : ∀ o k, k < n → o k = none → ∀ (w : World) (K : Act → World → Prop), K (F (updO o k (some w.heap.size))) (w.alloc (ob k)) → wpOp P ops Q (idx k) K (F o) w)
    (hls : ∀ o k b, k < n → o k = none → (ls o).setIfInBounds (idx k) true = ls (updO o k (some b)))
    (hrd : ∀ o, ¬ Fin o → Region.ready .any ops (ls o) ≠ [] ∧ ∀ i ∈ Region.ready .any ops (ls o), ∃ k, k < n ∧ o k = none ∧ i = idx k)
    (hnF : ∀ o, nones o n = 0 → Fin o)
    (hfin : ∀ o w, Fin o → Made w0 w n ob o → wpAny P .any ops Q (nones o n + 2) (ls o) (F o) w) :
    ∀ m o w, nones o n = m → Made w0 w n ob o → wpAny P .any ops Q (m + 2) (ls o) (F o) w := by
  intro m
  induction m with
  | zero =>
    intro o w hm hM
    have := hfin o w (hnF o hm) hM
    rwa [hm] at this
  | succ m ih =>
    intro o w hm hM
    rcases hdec o with hF | hF
    · have := hfin o w hF hM
      rwa [hm] at this
    · obtain ⟨hne, hall⟩ := hrd o hF
      refine ⟨fun h => absurd h hne, fun i hi => ?_⟩
      obtain ⟨k, hk, hok, rfl⟩ := hall i hi
      refine hrun o k hk hok w _ ?_
      rw [hls o k w.heap.size hk hok]
      exact ih _ _ (by have := nones_made o k w.heap.size hok n hk; omega) hM.next

end Go.Proofs.Ytgahdclbaifcbaa

