/- Accepts. -/
import Derived.Deep.CutRange
import Derived.Great.BuildSlice
import Derived.Test.YtdncjikmknkkpaaDoorAcf
import Derived.Test.YtdncjikmknkkpaaDoorNmbJ
import Derived.Test.YtdncjikmknkkpaaDoorChk
import Derived.Test.YtdncjikmknkkpaaDoorRws
namespace Go.Proofs.YtdncjikmknkkpaaDoor
open Go.RowKit

/-- The box of an automaton. -/
structure Bo (w : World) (b : Nat) (A : Ax) : Prop where
  r0 : w.cell? ⟨b, 0, none⟩ = some (.slice A.sa A.sn A.sc)
  r1 : w.cell? ⟨b, 1, none⟩ = some (.slice A.na A.G A.nc)
  r2 : w.cell? ⟨b, 2, none⟩ = some (.slice A.ma A.M A.mc)
  r3 : w.cell? ⟨b, 3, none⟩ = some (.slice A.oa A.O A.oc)
  r4 : w.cell? ⟨b, 4, none⟩ = some (.slice A.fa A.K A.fc)
theorem Bo.below {w w' : World} {b : Nat} {A : Ax} (h : Bo w b A) (hb : Below w.heap.size w w') : Bo w' b A :=
  ⟨below_cell hb (Nat.le_refl _) h.r0, below_cell hb (Nat.le_refl _) h.r1, below_cell hb (Nat.le_refl _) h.r2, below_cell hb (Nat.le_refl _) h.r3, below_cell hb (Nat.le_refl _) h.r4⟩
section
variable {P : Program} {ops : Array Oper} {Q : Exit → Act → World → Prop} {md : Region.Mode} {S : World → Prop} {ex : Nat → Bool}
/-- Whichever of those that are ready comes up. -/
theorem G_alt {f : Nat} {listed : Array Bool} {a : Act} {w : World} {l : List Nat} (hr : Region.ready md ops listed = l) (hl : l ≠ [])
    (h : ∀ i, i ∈ l → ∃ o, ops[i]? = some o ∧ ∀ K' : Act → World → Prop, Shut (∀ a w, (ex i = false → S w) → ((ex i = false → S w) → wpAnyG P md ops Q S ex f (listed.setIfInBounds i true) a w) → K' a w) → if Region.wanted o (yielded ops a.tmps) = true then Oper.wp P o a w K' Q else K' (a.put o.dst undef) w) :
    wpAnyG P md ops Q S ex (f + 1) listed a w := by
  refine ⟨fun h0 => absurd (hr.symm.trans h0) hl, fun j hj => ?_⟩
  rw [hr] at hj
  obtain ⟨o, ho, hh⟩ := h j hj
  exact wpOp_step ho (fun K' hK => hh K' (fun a w hS hW => hK a w ⟨hS, hW hS⟩))
end

theorem chkA_ok {A : Ax} (h : chkA A = 0) : A.G ≤ 2048 ∧ A.K ≤ 80 ∧ A.M = A.G ∧ A.O = A.G ∧ (∀ i, i < A.sn → 0 ≤ A.S i ∧ A.S i < A.G) ∧ (∀ r, r < A.G → ∀ i, i < A.L r → 0 ≤ A.Z r i ∧ A.Z r i < A.G) ∧ (∀ r, r < A.K → ∀ i, i < A.FL r → 0 ≤ A.FZ r i ∧ A.FZ r i < A.G) ∧ okL A.G A.L A.Z A.G = true := by
  unfold chkA at h
  by_cases h1 : 2048 < A.G ∨ 80 < A.K
  · rw [if_pos h1] at h; cases h
  · rw [if_neg h1] at h
    by_cases h2 : A.M ≠ A.G ∨ A.O ≠ A.G
    · rw [if_pos h2] at h; cases h
    · rw [if_neg h2] at h
      by_cases h3 : allIn A.sn A.S A.G = true ∧ okL A.G A.L A.Z A.G = true ∧ okL A.K A.FL A.FZ A.G = true
      · exact ⟨by omega, by omega, by omega, by omega, allIn_all h3.1, okL_all h3.2.1, okL_all h3.2.2, h3.2.1⟩
      · rw [if_neg h3] at h; cases h

end Go.Proofs.YtdncjikmknkkpaaDoor

