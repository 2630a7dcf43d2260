/- What came in, opened: a graph, a list of numbers, a list of bools. What came in, opened: lists of numbers and of bools; how large they are. -/
import Derived.Test.YtjenkhphngiphaaGraph
import Derived.ProofKit
import Derived.OpenShut
import Derived.ShutString
import Derived.ChangeOld
import Derived.Below
import Derived.SizedLaws
import Derived.Deep.Matrix
import Derived.Test.YtjenkhphngiphaaMore
namespace Go.Proofs.Ytjenkhphngiphaa
open Go.ChangeShapes Go.WideShapes Go.ChangeAt Go.RowKit Go.Deep

theorem Try.own : ownKnob Try.prog.godebug = none := by kernel_rfl
theorem Try.laidOut : laidOutB Try.prog = true := by kernel_rfl
theorem Try.cells30 : Try.prog.cellsOf 26 = 1 := by kernel_rfl
theorem Try.cells3 : Try.prog.cellsOf 3 = 1 := by kernel_rfl
theorem Try.cells4 : Try.prog.cellsOf 4 = 1 := by kernel_rfl
theorem Try.bytes30 : Try.prog.bytesOf 26 = 24 := by kernel_rfl
theorem Try.bytes3 : Try.prog.bytesOf 3 = 8 := by kernel_rfl
theorem Try.bytes4 : Try.prog.bytesOf 4 = 1 := by kernel_rfl
theorem reach_eq : reachBytes = 140737488351232 := rfl

theorem add_none (b o k : Nat) : (⟨b, o, none⟩ : Addr).add k = ⟨b, o + k, none⟩ := by
  unfold Addr.add
  split <;> simp_all

theorem weightsAll_mem {H : Type} {P : Program} {e : TypeId} : ∀ {l : List (DataW H)} {d : DataW H}, d ∈ l → ∀ n ∈ d.weights P e, n ∈ DataW.weightsAll P e l
  | d' :: r, d, hd, n, hn => by
    simp only [DataW.weightsAll, List.mem_append]
    rcases List.mem_cons.1 hd with rfl | h
    · exact Or.inl hn
    · exact Or.inr (weightsAll_mem h n hn)

theorem weights_le {H : Type} {P : Program} {ts : List TypeId} {ds : List (DataW H)} (h : (DataW.weightsEach P ts ds).all (· ≤ reachBytes) = true) {j : Nat} {t : TypeId} {d : DataW H}
    (ht : ts[j]? = some t) (hd : ds[j]? = some d) : ∀ n ∈ d.weights P t, n ≤ reachBytes :=
  fun _ hn => of_decide_eq_true (List.all_eq_true.1 h _ (DataW.weights_mem_each ht hd _ hn))

section
variable {H : Type} {enc : TypeId × Value → H} {W : World} {held : Bool}

/-- A row by its address and its cells. -/
theorem row_of {a : Option Addr} {n : Nat} {Z : Nat → Int} (h : ∀ i, i < n → ∃ x, a = some x ∧ W.cell? (x.add i) = some (.int .i64 (Z i))) : Row W a n Z := by
  by_cases h0 : 0 < n
  · obtain ⟨⟨b, o, s⟩, rfl, hc⟩ := h 0 h0
    have hs : s = none := by simpa [Addr.add] using World.cell?_spot hc
    subst hs
    refine ⟨b, o, fun _ => rfl, fun i hi => ?_⟩
    obtain ⟨x, hx, hci⟩ := h i hi
    cases hx
    rwa [add_none] at hci
  · exact ⟨0, 0, fun hh => absurd hh h0, fun i hi => by omega⟩

theorem open_gr {ga : Option Addr} {G gc : Nat} {d : DataW H} {p : List MemPlace} (h : DataW.Trod enc Try.prog W 0 (fun _ => true) held 32 (.slice ga G gc) d p) (hw : ∀ n ∈ d.weights Try.prog 32, n ≤ reachBytes) :
    ∃ L Z, Gr W ga G L Z ∧ 24 * G ≤ 140737488351232 ∧ ∀ r, r < G → L r ≤ 140737488355328 := by
  obtain ⟨fuel, hf⟩ := h
  rcases open_int_rows Try.underlying32 Try.underlying26 Try.underlying3 Try.cells30 Try.cells3 hf with ⟨hcs, _⟩ | ⟨a, len, cap, A, L, C, Z, hcs, _, hl, hm, hx, hrows⟩
  · simp [Value.cells] at hcs
    obtain ⟨rfl, rfl, rfl⟩ := hcs
    exact ⟨fun _ => 0, fun _ _ => 0, ⟨0, 0, fun hh => by omega, fun r hr => by omega⟩, by omega, fun r hr => by omega⟩
  · simp [Value.cells] at hcs
    obtain ⟨rfl, rfl, rfl⟩ := hcs
    simp only [Prod.mk.injEq] at hx
    obtain ⟨rfl, _⟩ := hx
    have hbig := hw ((G + (gc - G)) * 24) (by simp [DataW.weights, Try.underlying32, Try.bytes30])
    rw [reach_eq] at hbig
    refine ⟨L, fun r i => (Z r).getD i 0, ?_, by omega, fun r hr => ?_⟩
    · by_cases h0 : 0 < G
      · obtain ⟨b, o, s⟩ := a
        have hs : s = none := by simpa [Addr.add] using World.cell?_spot (hrows 0 (by omega)).1
        subst hs
        refine ⟨b, o, fun _ => rfl, fun r hr => ⟨A r, C r, ?_, row_of (fun i hi => ?_)⟩⟩
        · rw [← add_none]; exact (hrows r (by omega)).1
        · obtain ⟨_, h1, _, h3, _, h5, h6⟩ := hrows r (by omega)
          cases hA : A r with
          | none => have := h5 hA; omega
          | some x => exact ⟨x, rfl, (h6 x hA).2 i (by omega)⟩
      · exact ⟨0, 0, fun hh => absurd hh h0, fun r hr => by omega⟩
    · obtain ⟨_, h1, _, h3, _, h5, h6⟩ := hrows r (by omega)
      cases hA : A r with
      | none => have := h5 hA; omega
      | some x =>
        have hin := hw ((L r + (C r - L r)) * 8) (by
          simp only [DataW.weights, Try.underlying32, List.mem_cons, List.mem_append]
          refine Or.inr (Or.inl (weightsAll_mem (List.mem_map.2 ⟨r, List.mem_range.2 hr, rfl⟩) _ ?_))
          simp [intRow, hA, lits, DataW.weights, Try.underlying26, Try.bytes3, h3, Nat.min_eq_left h1])
        rw [reach_eq] at hin
        omega

end
end Go.Proofs.Ytjenkhphngiphaa

namespace Go.Proofs.Ytjenkhphngiphaa
open Go.ChangeShapes Go.WideShapes Go.ChangeAt Go.RowKit Go.Deep

theorem zero_wf : (Lit.int .i64 0).wf = true := by decide

theorem bulk_pos {H : Type} (d : DataW H) : 1 ≤ Rows.uptoBulk d := by
  cases d with
  | lit l => cases l <;> simp [Rows.uptoBulk]
  | _ => simp [Rows.uptoBulk]

theorem bulk_len {H : Type} : ∀ l : List (DataW H), l.length ≤ Rows.uptoBulkAll l
  | [] => by simp
  | d :: r => by
    have h1 := bulk_pos d
    have h2 := bulk_len r
    simp only [Rows.uptoBulkAll, List.length_cons]
    omega

theorem bulk_slice {H : Type} (elems spare : List (DataW H)) : elems.length + spare.length + 1 ≤ Rows.uptoBulk (.slice elems spare) := by
  have h1 := bulk_len elems
  have h2 := bulk_len spare
  simp only [Rows.uptoBulk]
  omega

section
variable {H : Type} {enc : TypeId × Value → H} {W : World} {held : Bool}

theorem open_row {a : Option Addr} {n c : Nat} {d : DataW H} {p : List MemPlace} (h : DataW.Trod enc Try.prog W 0 (fun _ => true) held 26 (.slice a n c) d p) (hw : ∀ x ∈ d.weights Try.prog 26, x ≤ reachBytes) :
    ∃ Z, Row W a n Z ∧ (a = none → n = 0 ∧ c = 0) ∧ n ≤ c ∧ c * 8 ≤ 140737488351232 ∧ c ≤ Rows.uptoBulk d ∧ ∀ i, (Lit.int .i64 (Z i)).wf = true := by
  obtain ⟨fuel, hf⟩ := h
  rcases open_ints Try.underlying26 Try.underlying3 Try.cells3 hf with ⟨hcs, hx⟩ | ⟨x, l, cap, zs, hcs, _, hl, hm, hz, hx, hcell, hwz⟩
  · simp [Value.cells] at hcs
    obtain ⟨rfl, rfl, rfl⟩ := hcs
    exact ⟨fun _ => 0, row_zero _ _ _, fun _ => ⟨rfl, rfl⟩, Nat.le_refl _, by omega, Nat.zero_le _, fun _ => zero_wf⟩
  · simp [Value.cells] at hcs
    obtain ⟨rfl, rfl, rfl⟩ := hcs
    simp only [Prod.mk.injEq] at hx
    obtain ⟨rfl, _⟩ := hx
    have hz' : zs.length = c := by simpa using hz
    have hb := hw ((n + (c - n)) * 8) (by simp [DataW.weights, Try.underlying26, Try.bytes3, lits, hz', Nat.min_eq_left hl])
    rw [reach_eq] at hb
    have hbk := bulk_slice (lits (H := H) .i64 (zs.take n)) (lits .i64 (zs.drop n))
    simp only [lits, List.length_map, List.length_take, List.length_drop, hz', Nat.min_eq_left hl] at hbk
    refine ⟨fun i => zs.getD i 0, row_of (fun i hi => ⟨x, rfl, hcell i (by omega)⟩), fun hh => (by cases hh), hl, by omega, by simp only [lits]; omega, fun i => ?_⟩
    show (Lit.int .i64 (zs.getD i 0)).wf = true
    by_cases hi : i < zs.length
    · refine hwz _ ?_
      rw [List.getD_eq_getElem?_getD, List.getElem?_eq_getElem hi]
      exact List.getElem_mem _
    · rw [List.getD_eq_getElem?_getD, List.getElem?_eq_none (by omega)]
      exact zero_wf

end
end Go.Proofs.Ytjenkhphngiphaa
