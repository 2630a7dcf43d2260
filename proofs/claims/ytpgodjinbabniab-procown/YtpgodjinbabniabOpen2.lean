/- What came in, opened: lists of numbers and of bools; how large they are. -/
import Derived.Test.YtpgodjinbabniabOpen
import Derived.Test.YtpgodjinbabniabDist2J
namespace Go.Proofs.Ytpgodjinbabniab
open Go.ChangeShapes Go.WideShapes Go.ChangeAt Go.RowKit Go.Deep

theorem zero_wf : (Lit.int .i64 0).wf = true := by decide

theorem bulk_pos {H : Type} (d : DataW H) : 1 ≤ Rows.uptoBulk d := by
  cases d with
  | lit l => cases l <;> simp [Rows.uptoBulk]
  | _ => simp [Rows.uptoBulk]

theorem bulk_len {H : Type} : ∀ l : List (DataW H), l.length ≤ Rows.uptoBulkAll l
  | [] => by simp
  | d :: r => by
    have h1 := bulk_pos d
    have h2 := bulk_len r
    simp only [Rows.uptoBulkAll, List.length_cons]
    omega

theorem bulk_slice {H : Type} (elems spare : List (DataW H)) : elems.length + spare.length + 1 ≤ Rows.uptoBulk (.slice elems spare) := by
  have h1 := bulk_len elems
  have h2 := bulk_len spare
  simp only [Rows.uptoBulk]
  omega

section
variable {H : Type} {enc : TypeId × Value → H} {W : World} {held : Bool}

theorem open_row {a : Option Addr} {n c : Nat} {d : DataW H} {p : List MemPlace} (h : DataW.Trod enc Try.prog W 0 (fun _ => true) held 26 (.slice a n c) d p) (hw : ∀ x ∈ d.weights Try.prog 26, x ≤ reachBytes) :
    ∃ Z, Row W a n Z ∧ (a = none → n = 0 ∧ c = 0) ∧ n ≤ c ∧ c * 8 ≤ 140737488351232 ∧ c ≤ Rows.uptoBulk d ∧ ∀ i, (Lit.int .i64 (Z i)).wf = true := by
  obtain ⟨fuel, hf⟩ := h
  rcases open_ints Try.underlying26 Try.underlying3 Try.cells3 hf with ⟨hcs, hx⟩ | ⟨x, l, cap, zs, hcs, _, hl, hm, hz, hx, hcell, hwz⟩
  · simp [Value.cells] at hcs
    obtain ⟨rfl, rfl, rfl⟩ := hcs
    exact ⟨fun _ => 0, row_zero _ _ _, fun _ => ⟨rfl, rfl⟩, Nat.le_refl _, by omega, Nat.zero_le _, fun _ => zero_wf⟩
  · simp [Value.cells] at hcs
    obtain ⟨rfl, rfl, rfl⟩ := hcs
    simp only [Prod.mk.injEq] at hx
    obtain ⟨rfl, _⟩ := hx
    have hz' : zs.length = c := by simpa using hz
    have hb := hw ((n + (c - n)) * 8) (by simp [DataW.weights, Try.underlying26, Try.bytes3, lits, hz', Nat.min_eq_left hl])
    rw [reach_eq] at hb
    have hbk := bulk_slice (lits (H := H) .i64 (zs.take n)) (lits .i64 (zs.drop n))
    simp only [lits, List.length_map, List.length_take, List.length_drop, hz', Nat.min_eq_left hl] at hbk
    refine ⟨fun i => zs.getD i 0, row_of (fun i hi => ⟨x, rfl, hcell i (by omega)⟩), fun hh => (by cases hh), hl, by omega, by simp only [lits]; omega, fun i => ?_⟩
    show (Lit.int .i64 (zs.getD i 0)).wf = true
    by_cases hi : i < zs.length
    · refine hwz _ ?_
      rw [List.getD_eq_getElem?_getD, List.getElem?_eq_getElem hi]
      exact List.getElem_mem _
    · rw [List.getD_eq_getElem?_getD, List.getElem?_eq_none (by omega)]
      exact zero_wf

end
end Go.Proofs.Ytpgodjinbabniab
