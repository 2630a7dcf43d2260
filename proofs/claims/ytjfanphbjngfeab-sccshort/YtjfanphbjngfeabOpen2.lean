/- What came in, opened: lists of numbers and of bools; how large they are. -/
import Derived.Test.YtjfanphbjngfeabOpen
import Derived.Test.YtjfanphbjngfeabMore
import Derived.Deep.Grids
namespace Go.Proofs.Ytjfanphbjngfeab
open Go.ChangeShapes Go.WideShapes Go.ChangeAt Go.RowKit Go.Deep

theorem zero_wf : (Lit.int .i64 0).wf = true := by decide

theorem bulk_pos {H : Type} (d : DataW H) : 1 ≤ Rows.uptoBulk d := by
  cases d with
  | lit l => cases l <;> simp [Rows.uptoBulk]
  | _ => simp [Rows.uptoBulk]

theorem bulk_len {H : Type} : ∀ l : List (DataW H), l.length ≤ Rows.uptoBulkAll l
  | [] => by simp
  | d :: r => by
    have h1 := bulk_pos d
    have h2 := bulk_len r
    simp only [Rows.uptoBulkAll, List.length_cons]
    omega

theorem bulk_slice {H : Type} (elems spare : List (DataW H)) : elems.length + spare.length + 1 ≤ Rows.uptoBulk (.slice elems spare) := by
  have h1 := bulk_len elems
  have h2 := bulk_len spare
  simp only [Rows.uptoBulk]
  omega

section
variable {H : Type} {enc : TypeId × Value → H} {W : World} {held : Bool}

theorem open_row {a : Option Addr} {n c : Nat} {d : DataW H} {p : List MemPlace} (h : DataW.Trod enc Try.prog W 0 (fun _ => true) held 23 (.slice a n c) d p) (hw : ∀ x ∈ d.weights Try.prog 23, x ≤ reachBytes) :
    ∃ Z, Row W a n Z ∧ (a = none → n = 0 ∧ c = 0) ∧ n ≤ c ∧ c * 8 ≤ 140737488351232 ∧ c ≤ Rows.uptoBulk d ∧ ∀ i, (Lit.int .i64 (Z i)).wf = true := by
  obtain ⟨fuel, hf⟩ := h
  rcases open_ints Try.underlying23 Try.underlying3 Try.cells3 hf with ⟨hcs, hx⟩ | ⟨x, l, cap, zs, hcs, _, hl, hm, hz, hx, hcell, hwz⟩
  · simp [Value.cells] at hcs
    obtain ⟨rfl, rfl, rfl⟩ := hcs
    exact ⟨fun _ => 0, row_zero _ _ _, fun _ => ⟨rfl, rfl⟩, Nat.le_refl _, by omega, Nat.zero_le _, fun _ => zero_wf⟩
  · simp [Value.cells] at hcs
    obtain ⟨rfl, rfl, rfl⟩ := hcs
    simp only [Prod.mk.injEq] at hx
    obtain ⟨rfl, _⟩ := hx
    have hz' : zs.length = c := by simpa using hz
    have hb := hw ((n + (c - n)) * 8) (by simp [DataW.weights, Try.underlying23, Try.bytes3, lits, hz', Nat.min_eq_left hl])
    rw [reach_eq] at hb
    have hbk := bulk_slice (lits (H := H) .i64 (zs.take n)) (lits .i64 (zs.drop n))
    simp only [lits, List.length_map, List.length_take, List.length_drop, hz', Nat.min_eq_left hl] at hbk
    refine ⟨fun i => zs.getD i 0, row_of (fun i hi => ⟨x, rfl, hcell i (by omega)⟩), fun hh => (by cases hh), hl, by omega, by simp only [lits]; omega, fun i => ?_⟩
    show (Lit.int .i64 (zs.getD i 0)).wf = true
    by_cases hi : i < zs.length
    · refine hwz _ ?_
      rw [List.getD_eq_getElem?_getD, List.getElem?_eq_getElem hi]
      exact List.getElem_mem _
    · rw [List.getD_eq_getElem?_getD, List.getElem?_eq_none (by omega)]
      exact zero_wf

theorem rowb_of {a : Option Addr} {n : Nat} {B : Nat → Bool} (h : ∀ i, i < n → ∃ x, a = some x ∧ W.cell? (x.add i) = some (.bool (B i))) : Rowb W a n B := by
  by_cases h0 : 0 < n
  · obtain ⟨⟨b, o, s⟩, rfl, hc⟩ := h 0 h0
    have hs : s = none := by simpa [Addr.add] using World.cell?_spot hc
    subst hs
    refine ⟨b, o, fun _ => rfl, fun i hi => ?_⟩
    obtain ⟨x, hx, hci⟩ := h i hi
    cases hx
    rwa [add_none] at hci
  · exact ⟨0, 0, fun hh => absurd hh h0, fun i hi => by omega⟩

theorem open_rowb {a : Option Addr} {n c : Nat} {d : DataW H} {p : List MemPlace} (h : DataW.Trod enc Try.prog W 0 (fun _ => true) held 24 (.slice a n c) d p) : ∃ B, Rowb W a n B := by
  obtain ⟨fuel, hf⟩ := h
  rcases open_bools Try.underlying24 Try.underlying4 Try.cells4 hf with ⟨hcs, _⟩ | ⟨x, l, cap, B, hcs, _, hl, hm, _, hcell⟩
  · simp [Value.cells] at hcs
    obtain ⟨rfl, rfl, rfl⟩ := hcs
    exact ⟨fun _ => false, rowb_of (fun i hi => by omega)⟩
  · simp [Value.cells] at hcs
    obtain ⟨rfl, rfl, rfl⟩ := hcs
    exact ⟨B, rowb_of (fun i hi => ⟨x, rfl, hcell i (by omega)⟩)⟩

end
end Go.Proofs.Ytjfanphbjngfeab
