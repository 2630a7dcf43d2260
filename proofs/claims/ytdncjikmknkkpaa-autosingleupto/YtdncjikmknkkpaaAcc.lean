/- Accepts. -/
import Derived.Deep.CutRange
import Derived.Test.YtdncjikmknkkpaaAcf
import Derived.Test.YtdncjikmknkkpaaAut
import Derived.Test.YtdncjikmknkkpaaBld
import Derived.Test.YtdncjikmknkkpaaChk
import Derived.Test.YtdncjikmknkkpaaRws
namespace Go.Proofs.Ytdncjikmknkkpaa
open Go.RowKit

/-- The box of an automaton. -/
structure Bo (w : World) (b : Nat) (A : Ax) : Prop where
  r0 : w.cell? ⟨b, 0, none⟩ = some (.slice A.sa A.sn A.sc)
  r1 : w.cell? ⟨b, 1, none⟩ = some (.slice A.na A.G A.nc)
  r2 : w.cell? ⟨b, 2, none⟩ = some (.slice A.ma A.M A.mc)
  r3 : w.cell? ⟨b, 3, none⟩ = some (.slice A.oa A.O A.oc)
  r4 : w.cell? ⟨b, 4, none⟩ = some (.slice A.fa A.K A.fc)
theorem Bo.below {w w' : World} {b : Nat} {A : Ax} (h : Bo w b A) (hb : Below w.heap.size w w') : Bo w' b A :=
  ⟨below_cell hb (Nat.le_refl _) h.r0, below_cell hb (Nat.le_refl _) h.r1, below_cell hb (Nat.le_refl _) h.r2, below_cell hb (Nat.le_refl _) h.r3, below_cell hb (Nat.le_refl _) h.r4⟩
section
variable {P : Program} {ops : Array Oper} {Q : Exit → Act → World → Prop} {md : Region.Mode} {S : World → Prop} {ex : Nat → Bool}
end

theorem chkA_ok {A : Ax} (h : chkA A = 0) : A.G ≤ 2048 ∧ A.K ≤ 80 ∧ A.M = A.G ∧ A.O = A.G ∧ (∀ i, i < A.sn → 0 ≤ A.S i ∧ A.S i < A.G) ∧ (∀ r, r < A.G → ∀ i, i < A.L r → 0 ≤ A.Z r i ∧ A.Z r i < A.G) ∧ (∀ r, r < A.K → ∀ i, i < A.FL r → 0 ≤ A.FZ r i ∧ A.FZ r i < A.G) ∧ okL A.G A.L A.Z A.G = true := by
  unfold chkA at h
  by_cases h1 : 2048 < A.G ∨ 80 < A.K
  · rw [if_pos h1] at h; cases h
  · rw [if_neg h1] at h
    by_cases h2 : A.M ≠ A.G ∨ A.O ≠ A.G
    · rw [if_pos h2] at h; cases h
    · rw [if_neg h2] at h
      by_cases h3 : allIn A.sn A.S A.G = true ∧ okL A.G A.L A.Z A.G = true ∧ okL A.K A.FL A.FZ A.G = true
      · exact ⟨by omega, by omega, by omega, by omega, allIn_all h3.1, okL_all h3.2.1, okL_all h3.2.2, h3.2.1⟩
      · rw [if_neg h3] at h; cases h

end Go.Proofs.Ytdncjikmknkkpaa

