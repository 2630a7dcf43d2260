/- What came in, opened: a process.   -/
import Derived.Deep.SlicePairs
import Derived.Lib.SmallJoins
import Derived.Test.YthpbgfodejoecaaSndLeafJ
import Derived.Test.YthpbgfodejoecaaWScNumberJ
import Derived.Test.YthpbgfodejoecaaReachJ
import Derived.ProofKit
import Derived.OpenShut
import Derived.ShutString
import Derived.ChangeOld
import Derived.Below
import Derived.SizedLaws
import Derived.Deep.Matrix
import Derived.WalkKit
import Derived.WalkSpells
import Derived.WalkLawsBesides
import Derived.Deep.QuietTactic
import Derived.BigQuiet
import Derived.Test.YthpbgfodejoecaaBfs
import Derived.Test.YthpbgfodejoecaaTurnJ
import Derived.Test.YthpbgfodejoecaaDist2
import Derived.Test.YthpbgfodejoecaaExpl
import Derived.Test.YthpbgfodejoecaaExpl2
import Derived.Test.YthpbgfodejoecaaLeafJ
import Derived.Test.YthpbgfodejoecaaGame
import Derived.Test.YthpbgfodejoecaaHeldJ
import Derived.Test.YthpbgfodejoecaaGameEnJ
import Derived.Test.YthpbgfodejoecaaGameFace
import Derived.Test.YthpbgfodejoecaaGameFire
import Derived.Test.YthpbgfodejoecaaGameLay
import Derived.Test.YthpbgfodejoecaaGameMay
import Derived.Test.YthpbgfodejoecaaGameStep
import Derived.Test.YthpbgfodejoecaaGameWalk
import Derived.Test.YthpbgfodejoecaaLast
import Derived.Test.YthpbgfodejoecaaProc
import Derived.Test.YthpbgfodejoecaaProc2
import Derived.Test.YthpbgfodejoecaaProc3
import Derived.Test.YthpbgfodejoecaaProc4
import Derived.Test.YthpbgfodejoecaaProc5
import Derived.Test.YthpbgfodejoecaaProc7
import Derived.Test.YthpbgfodejoecaaSpExpl
import Derived.Test.YthpbgfodejoecaaSpFaceJ
import Derived.Test.YthpbgfodejoecaaSpKey
import Derived.Test.YthpbgfodejoecaaSpMem
import Derived.Test.YthpbgfodejoecaaSpRev
import Derived.Test.YthpbgfodejoecaaSpSpread
import Derived.Test.YthpbgfodejoecaaSteps
import Derived.Test.YthpbgfodejoecaaStepsLeaf
import Derived.Test.YthpbgfodejoecaaStepsOf
import Derived.Test.YthpbgfodejoecaaStepsOf2
import Derived.RegionTactic
import Derived.Deep.OwnRows
import Derived.Maps.AppendAt
import Derived.Deep.Quiet
/- What came in, opened: a graph, a list of numbers, a list of bools. -/
/- What came in, opened: lists of numbers and of bools; how large they are. -/
namespace Go.Proofs.Ythpbgfodejoecaa
open Go.ChangeShapes Go.WideShapes Go.ChangeAt Go.RowKit Go.Deep Go.Joins

theorem Try.cells25 : Try.prog.cellsOf 25 = 2 := by kernel_rfl
theorem Try.cells55 : Try.prog.cellsOf 84 = 2 := by kernel_rfl
theorem Try.cells37 : Try.prog.cellsOf 86 = 2 := by kernel_rfl
theorem Try.cells9 : Try.prog.cellsOf 9 = 1 := by kernel_rfl
theorem Try.bytes55 : Try.prog.bytesOf 84 = 24 := by kernel_rfl
theorem Try.bytes37 : Try.prog.bytesOf 86 = 16 := by kernel_rfl

section
variable {H : Type} {enc : TypeId × Value → H} {W : World} {held : Bool}

theorem spot_none {x : Addr} {v : Value} (h : W.cell? (x.add 0) = some v) : x = ⟨x.block, x.off, none⟩ := by
  obtain ⟨b, o, s⟩ := x
  have hs : s = none := by simpa [Addr.add] using World.cell?_spot h
  subst hs
  rfl

theorem open_nds {fuel : Nat} {v : Value} {y : DataW H × List MemPlace} (h : DataW.trod enc Try.prog W 0 (fun _ => true) held fuel 22 [v] = some y) (hw : ∀ n ∈ y.1.weights Try.prog 22, n ≤ reachBytes) :
    ∃ a N c M K, v = .slice a N c ∧ Nds W a N M K ∧ N ≤ c ∧ N ≤ 140737488355328 ∧ ∀ i, i < N → (M i).size ≤ maxLen := by
  rcases open_slice_pairs Try.underlying22 Try.underlying84 Try.cells55 rfl rfl Try.cells9 Try.cells3 h with ⟨hcs, _⟩ | ⟨a, len, cap, m, n, V0, V1, D0, D1, P0, P1, hcs, _, hl, _, hm, hx, hrows⟩
  · cases hcs
    exact ⟨none, 0, 0, fun _ => ⟨#[]⟩, fun _ => 0, rfl, ⟨0, 0, fun hh => by omega, fun i hi => by omega⟩, Nat.le_refl _, by omega, fun i hi => by omega⟩
  · cases hcs
    subst hx
    have hm' : m = cap := by simpa using hm
    subst hm'
    have hbig := hw ((len + (m - len)) * 24) (by simp [DataW.weights, Try.underlying22, Try.bytes55])
    rw [reach_eq] at hbig
    have each : ∀ i, i < len → ∃ q : ByteArray × Int, W.cell? (a.add (i * 2)) = some (.string q.1) ∧ W.cell? (a.add (i * 2 + 1)) = some (.int .i64 q.2) ∧ q.1.size ≤ maxLen := by
      intro i hi
      obtain ⟨h1, h2, h3, h4⟩ := hrows i (by omega)
      obtain ⟨s, hs, _, hz⟩ := DataW.trod_string Try.underlying9 h3
      obtain ⟨k, hk, _, _⟩ := DataW.trod_int Try.underlying3 h4
      simp only [List.cons.injEq, and_true] at hs hk
      rw [hs] at h1
      rw [hk] at h2
      exact ⟨(_, _), h1, h2, hz⟩
    have : Inhabited (ByteArray × Int) := ⟨(⟨#[]⟩, 0)⟩
    obtain ⟨q, hq⟩ := choose_lt each
    refine ⟨some a, len, m, fun i => (q i).1, fun i => (q i).2, rfl, ?_, hl, by omega, fun i hi => (hq i hi).2.2⟩
    by_cases h0 : 0 < len
    · have ha := spot_none (by simpa using (hq 0 h0).1)
      rw [ha] at hq ⊢
      refine ⟨a.block, a.off, fun _ => rfl, fun i hi => ⟨?_, ?_⟩⟩
      · have := (hq i hi).1
        rwa [add_none] at this
      · have := (hq i hi).2.1
        rwa [add_none, ← Nat.add_assoc] at this
    · exact ⟨0, 0, fun hh => absurd hh h0, fun i hi => by omega⟩

theorem open_fls {fuel : Nat} {v : Value} {y : DataW H × List MemPlace} (h : DataW.trod enc Try.prog W 0 (fun _ => true) held fuel 23 [v] = some y) (hw : ∀ n ∈ y.1.weights Try.prog 23, n ≤ reachBytes) :
    ∃ a F c A B, v = .slice a F c ∧ Fls W a F A B ∧ F ≤ 140737488355328 := by
  rcases open_slice_pairs Try.underlying23 Try.underlying86 Try.cells37 rfl rfl Try.cells3 Try.cells3 h with ⟨hcs, _⟩ | ⟨a, len, cap, m, n, V0, V1, D0, D1, P0, P1, hcs, _, hl, _, hm, hx, hrows⟩
  · cases hcs
    exact ⟨none, 0, 0, fun _ => 0, fun _ => 0, rfl, ⟨0, 0, fun hh => by omega, fun i hi => by omega⟩, by omega⟩
  · cases hcs
    subst hx
    have hm' : m = cap := by simpa using hm
    subst hm'
    have hbig := hw ((len + (m - len)) * 16) (by simp [DataW.weights, Try.underlying23, Try.bytes37])
    rw [reach_eq] at hbig
    have each : ∀ i, i < len → ∃ q : Int × Int, W.cell? (a.add (i * 2)) = some (.int .i64 q.1) ∧ W.cell? (a.add (i * 2 + 1)) = some (.int .i64 q.2) := by
      intro i hi
      obtain ⟨h1, h2, h3, h4⟩ := hrows i (by omega)
      obtain ⟨s, hs, _, _⟩ := DataW.trod_int Try.underlying3 h3
      obtain ⟨k, hk, _, _⟩ := DataW.trod_int Try.underlying3 h4
      simp only [List.cons.injEq, and_true] at hs hk
      rw [hs] at h1
      rw [hk] at h2
      exact ⟨(_, _), h1, h2⟩
    obtain ⟨q, hq⟩ := choose_lt each
    refine ⟨some a, len, m, fun i => (q i).1, fun i => (q i).2, rfl, ?_, by omega⟩
    by_cases h0 : 0 < len
    · have ha := spot_none (by simpa using (hq 0 h0).1)
      rw [ha] at hq ⊢
      refine ⟨a.block, a.off, fun _ => rfl, fun i hi => ⟨?_, ?_⟩⟩
      · have := (hq i hi).1
        rwa [add_none] at this
      · have := (hq i hi).2
        rwa [add_none, ← Nat.add_assoc] at this
    · exact ⟨0, 0, fun hh => absurd hh h0, fun i hi => by omega⟩

set_option maxRecDepth 100000 in
theorem open_prc {r : Reach} {b0 : Nat} {v : Value} {d : DataW H} {p : List MemPlace} (hv : Value.okWide Try.prog W r b0 25 v) (h : DataW.Trod enc Try.prog W 0 (fun _ => true) held 25 v d p) (hw : ∀ n ∈ d.weights Try.prog 25, n ≤ reachBytes) :
    ∃ na N nc fa F fc M K A B, v = .agg #[.slice na N nc, .slice fa F fc] ∧ Prc W na N nc fa F M K A B ∧ ∀ i, i < N → (M i).size ≤ maxLen := by
  obtain ⟨v0, v1, y0, y1, n, rfl, rfl, _, h0, h1⟩ := open_agg2 Try.underlying25 (by kernel_rfl) Try.cells25 hv h
  obtain ⟨na, N, nc, M, K, rfl, hN, hc, hn, hs⟩ := open_nds h0 (fun x hx => hw x (by simp only [DataW.weights, Try.underlying25]; exact List.mem_append.2 (Or.inl hx)))
  obtain ⟨fa, F, fc, A, B, rfl, hF, hf⟩ := open_fls h1 (fun x hx => hw x (by simp only [DataW.weights, Try.underlying25]; exact List.mem_append.2 (Or.inr (List.mem_append.2 (Or.inl hx)))))
  exact ⟨na, N, nc, fa, F, fc, M, K, A, B, rfl, ⟨hN, hF, hc, hn, hf⟩, hs⟩

end
end Go.Proofs.Ythpbgfodejoecaa

namespace Go.Proofs.Ythpbgfodejoecaa
open Go.ChangeShapes Go.WideShapes Go.ChangeAt Go.RowKit Go.Deep

theorem Try.bytes3 : Try.prog.bytesOf 3 = 8 := by kernel_rfl
section
variable {H : Type} {enc : TypeId × Value → H} {W : World} {held : Bool}

/-- A row by its address and its cells. -/
theorem row_of {a : Option Addr} {n : Nat} {Z : Nat → Int} (h : ∀ i, i < n → ∃ x, a = some x ∧ W.cell? (x.add i) = some (.int .i64 (Z i))) : Row W a n Z := by
  by_cases h0 : 0 < n
  · obtain ⟨⟨b, o, s⟩, rfl, hc⟩ := h 0 h0
    have hs : s = none := by simpa [Addr.add] using World.cell?_spot hc
    subst hs
    refine ⟨b, o, fun _ => rfl, fun i hi => ?_⟩
    obtain ⟨x, hx, hci⟩ := h i hi
    cases hx
    rwa [add_none] at hci
  · exact ⟨0, 0, fun hh => absurd hh h0, fun i hi => by omega⟩

end
end Go.Proofs.Ythpbgfodejoecaa

namespace Go.Proofs.Ythpbgfodejoecaa
open Go.ChangeShapes Go.WideShapes Go.ChangeAt Go.RowKit Go.Deep

theorem zero_wf : (Lit.int .i64 0).wf = true := by decide

theorem bulk_pos {H : Type} (d : DataW H) : 1 ≤ Rows.uptoBulk d := by
  cases d with
  | lit l => cases l <;> simp [Rows.uptoBulk]
  | _ => simp [Rows.uptoBulk]

theorem bulk_len {H : Type} : ∀ l : List (DataW H), l.length ≤ Rows.uptoBulkAll l
  | [] => by simp
  | d :: r => by
    have h1 := bulk_pos d
    have h2 := bulk_len r
    simp only [Rows.uptoBulkAll, List.length_cons]
    omega

theorem bulk_slice {H : Type} (elems spare : List (DataW H)) : elems.length + spare.length + 1 ≤ Rows.uptoBulk (.slice elems spare) := by
  have h1 := bulk_len elems
  have h2 := bulk_len spare
  simp only [Rows.uptoBulk]
  omega

section
variable {H : Type} {enc : TypeId × Value → H} {W : World} {held : Bool}

theorem open_row {a : Option Addr} {n c : Nat} {d : DataW H} {p : List MemPlace} (h : DataW.Trod enc Try.prog W 0 (fun _ => true) held 26 (.slice a n c) d p) (hw : ∀ x ∈ d.weights Try.prog 26, x ≤ reachBytes) :
    ∃ Z, Row W a n Z ∧ (a = none → n = 0 ∧ c = 0) ∧ n ≤ c ∧ c * 8 ≤ 140737488351232 ∧ c ≤ Rows.uptoBulk d ∧ ∀ i, (Lit.int .i64 (Z i)).wf = true := by
  obtain ⟨fuel, hf⟩ := h
  rcases open_ints Try.underlying26 Try.underlying3 Try.cells3 hf with ⟨hcs, hx⟩ | ⟨x, l, cap, zs, hcs, _, hl, hm, hz, hx, hcell, hwz⟩
  · simp [Value.cells] at hcs
    obtain ⟨rfl, rfl, rfl⟩ := hcs
    exact ⟨fun _ => 0, row_zero _ _ _, fun _ => ⟨rfl, rfl⟩, Nat.le_refl _, by omega, Nat.zero_le _, fun _ => zero_wf⟩
  · simp [Value.cells] at hcs
    obtain ⟨rfl, rfl, rfl⟩ := hcs
    simp only [Prod.mk.injEq] at hx
    obtain ⟨rfl, _⟩ := hx
    have hz' : zs.length = c := by simpa using hz
    have hb := hw ((n + (c - n)) * 8) (by simp [DataW.weights, Try.underlying26, Try.bytes3, lits, hz', Nat.min_eq_left hl])
    rw [reach_eq] at hb
    have hbk := bulk_slice (lits (H := H) .i64 (zs.take n)) (lits .i64 (zs.drop n))
    simp only [lits, List.length_map, List.length_take, List.length_drop, hz', Nat.min_eq_left hl] at hbk
    refine ⟨fun i => zs.getD i 0, row_of (fun i hi => ⟨x, rfl, hcell i (by omega)⟩), fun hh => (by cases hh), hl, by omega, by simp only [lits]; omega, fun i => ?_⟩
    show (Lit.int .i64 (zs.getD i 0)).wf = true
    by_cases hi : i < zs.length
    · refine hwz _ ?_
      rw [List.getD_eq_getElem?_getD, List.getElem?_eq_getElem hi]
      exact List.getElem_mem _
    · rw [List.getD_eq_getElem?_getD, List.getElem?_eq_none (by omega)]
      exact zero_wf

end
end Go.Proofs.Ythpbgfodejoecaa
