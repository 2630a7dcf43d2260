/- What came in, opened: a list of numbers, a graph, letters, a word, an automaton. -/
import Derived.ProofKit
import Derived.OpenShut
import Derived.ShutString
import Derived.ChangeOld
import Derived.SizedLaws
import Derived.Deep.Slices
import Derived.Deep.Matrix
import Derived.Lib.SmallJoins
import Derived.Test.YtgahdclbaifcbaaSte
namespace Go.Proofs.Ytgahdclbaifcbaa
open Go.ChangeShapes Go.WideShapes Go.ChangeAt Go.RowKit Go.Deep Go.Joins

theorem Try.cells3 : Try.prog.cellsOf 3 = 1 := by kernel_rfl
theorem Try.cells22 : Try.prog.cellsOf 22 = 1 := by kernel_rfl
theorem Try.cells70 : Try.prog.cellsOf 70 = 1 := by kernel_rfl
theorem Try.bytes3 : Try.prog.bytesOf 3 = 8 := by kernel_rfl
theorem Try.bytes22 : Try.prog.bytesOf 22 = 24 := by kernel_rfl
theorem Try.bytes51 : Try.prog.bytesOf 70 = 8 := by kernel_rfl
theorem reach_eq : reachBytes = 140737488351232 := rfl

theorem weightsAll_mem {H : Type} {P : Program} {e : TypeId} : ∀ {l : List (DataW H)} {d : DataW H}, d ∈ l → ∀ n ∈ d.weights P e, n ∈ DataW.weightsAll P e l
  | d' :: r, d, hd, n, hn => by
    simp only [DataW.weightsAll, List.mem_append]
    rcases List.mem_cons.1 hd with rfl | h
    · exact Or.inl hn
    · exact Or.inr (weightsAll_mem h n hn)

theorem add_none (b o k : Nat) : (⟨b, o, none⟩ : Addr).add k = ⟨b, o + k, none⟩ := by
  unfold Addr.add
  split <;> simp_all

section
variable {H : Type} {enc : TypeId × Value → H} {W : World} {held : Bool}

theorem spot_none {x : Addr} {v : Value} (h : W.cell? (x.add 0) = some v) : x = ⟨x.block, x.off, none⟩ := by
  obtain ⟨b, o, s⟩ := x
  have hs : s = none := by simpa [Addr.add] using World.cell?_spot h
  subst hs
  rfl

/-- A row by its address and its cells. -/
theorem row_of {a : Option Addr} {n : Nat} {Z : Nat → Int} (h : ∀ i, i < n → ∃ x, a = some x ∧ W.cell? (x.add i) = some (.int .i64 (Z i))) : Row W a n Z := by
  by_cases h0 : 0 < n
  · obtain ⟨⟨b, o, s⟩, rfl, hc⟩ := h 0 h0
    have hs : s = none := by simpa [Addr.add] using World.cell?_spot hc
    subst hs
    refine ⟨b, o, fun _ => rfl, fun i hi => ?_⟩
    obtain ⟨x, hx, hci⟩ := h i hi
    cases hx
    rwa [add_none] at hci
  · exact ⟨0, 0, fun hh => absurd hh h0, fun i hi => by omega⟩

theorem wf_u64 {z : Int} (h : (Lit.int .u64 z).wf = true) : 0 ≤ z ∧ z < 18446744073709551616 := by
  have e1 : IntKind.u64.min = 0 := by decide
  have e2 : IntKind.u64.max = 18446744073709551615 := by decide
  simp [Lit.wf] at h
  omega

theorem open_row {fuel : Nat} {v : Value} {y : DataW H × List MemPlace} (h : DataW.trod enc Try.prog W 0 (fun _ => true) held fuel 22 [v] = some y) (hw : ∀ n ∈ y.1.weights Try.prog 22, n ≤ reachBytes) :
    ∃ a n c Z, v = .slice a n c ∧ Row W a n Z ∧ (a = none → n = 0 ∧ c = 0) ∧ n ≤ 140737488355328 ∧ n ≤ c := by
  rcases open_ints Try.underlying22 Try.underlying3 Try.cells3 h with ⟨hcs, hx⟩ | ⟨x, l, cap, zs, hcs, _, hl, hm, hz, hx, hcell, _⟩
  · cases hcs
    exact ⟨none, 0, 0, fun _ => 0, rfl, ⟨0, 0, fun hh => by omega, fun i hi => by omega⟩, fun _ => ⟨rfl, rfl⟩, by omega, Nat.le_refl _⟩
  · cases hcs
    subst hx
    have hz' : zs.length = cap := by simpa using hz
    have hb := hw ((l + (cap - l)) * 8) (by simp [DataW.weights, Try.underlying22, Try.bytes3, lits, hz', Nat.min_eq_left hl])
    rw [reach_eq] at hb
    exact ⟨some x, l, cap, fun i => zs.getD i 0, rfl, row_of (fun i hi => ⟨x, rfl, hcell i (by omega)⟩), fun hh => (by cases hh), by omega, hl⟩

theorem open_gr {fuel : Nat} {v : Value} {y : DataW H × List MemPlace} (h : DataW.trod enc Try.prog W 0 (fun _ => true) held fuel 23 [v] = some y) (hw : ∀ n ∈ y.1.weights Try.prog 23, n ≤ reachBytes) :
    ∃ ga G gc L Z, v = .slice ga G gc ∧ Gr W ga G L Z ∧ G ≤ 140737488355328 ∧ (∀ r, r < G → L r ≤ 140737488355328) ∧ (ga = none → G = 0 ∧ gc = 0) ∧ G ≤ gc ∧ ∀ r, r < G → L r * 8 ≤ 140737488355328 := by
  rcases open_int_rows Try.underlying23 Try.underlying22 Try.underlying3 Try.cells22 Try.cells3 h with ⟨hcs, _⟩ | ⟨a, len, cap, A, L, C, Z, hcs, _, hl, hm, hx, hrows⟩
  · cases hcs
    exact ⟨none, 0, 0, fun _ => 0, fun _ _ => 0, rfl, ⟨0, 0, fun hh => by omega, fun r hr => by omega⟩, by omega, fun r hr => by omega, fun _ => ⟨rfl, rfl⟩, Nat.le_refl _, fun r hr => by omega⟩
  · cases hcs
    subst hx
    have hbig := hw ((len + (cap - len)) * 24) (by simp [DataW.weights, Try.underlying23, Try.bytes22])
    rw [reach_eq] at hbig
    have hw8 : ∀ r, r < len → L r * 8 ≤ 140737488355328 := by
      intro r hr
      obtain ⟨_, h1, _, h3, _, h5, h6⟩ := hrows r (by omega)
      cases hA : A r with
      | none => have := h5 hA; omega
      | some x =>
        have hin := hw ((L r + (C r - L r)) * 8) (by
          simp only [DataW.weights, Try.underlying23, List.mem_cons, List.mem_append]
          refine Or.inr (Or.inl (weightsAll_mem (List.mem_map.2 ⟨r, List.mem_range.2 hr, rfl⟩) _ ?_))
          simp [intRow, hA, lits, DataW.weights, Try.underlying22, Try.bytes3, h3, Nat.min_eq_left h1])
        rw [reach_eq] at hin
        omega
    refine ⟨some a, len, cap, L, fun r i => (Z r).getD i 0, rfl, ?_, by omega, fun r hr => by have := hw8 r hr; omega, fun hh => (by cases hh), hl, hw8⟩
    · by_cases h0 : 0 < len
      · obtain ⟨b, o, s⟩ := a
        have hs : s = none := by simpa [Addr.add] using World.cell?_spot (hrows 0 (by omega)).1
        subst hs
        refine ⟨b, o, fun _ => rfl, fun r hr => ⟨A r, C r, ?_, row_of (fun i hi => ?_)⟩⟩
        · rw [← add_none]; exact (hrows r (by omega)).1
        · obtain ⟨_, h1, _, h3, _, h5, h6⟩ := hrows r (by omega)
          cases hA : A r with
          | none => have := h5 hA; omega
          | some x => exact ⟨x, rfl, (h6 x hA).2 i (by omega)⟩
      · exact ⟨0, 0, fun hh => absurd hh h0, fun r hr => by omega⟩

theorem open_ltrs {fuel : Nat} {v : Value} {y : DataW H × List MemPlace} (h : DataW.trod enc Try.prog W 0 (fun _ => true) held fuel 24 [v] = some y) (hw : ∀ n ∈ y.1.weights Try.prog 24, n ≤ reachBytes) :
    ∃ a n c Z, v = .slice a n c ∧ RowU W a n Z ∧ (a = none → n = 0 ∧ c = 0) ∧ n ≤ 140737488355328 ∧ n ≤ c ∧ ∀ i, i < n → 0 ≤ Z i ∧ Z i < 18446744073709551616 := by
  rcases open_ints Try.underlying24 Try.underlying70 Try.cells70 h with ⟨hcs, hx⟩ | ⟨x, l, cap, zs, hcs, _, hl, hm, hz, hx, hcell, hwz⟩
  · cases hcs
    exact ⟨none, 0, 0, fun _ => 0, rfl, ⟨0, 0, fun hh => by omega, fun i hi => by omega⟩, fun _ => ⟨rfl, rfl⟩, by omega, Nat.le_refl _, fun i hi => by omega⟩
  · cases hcs
    subst hx
    have hz' : zs.length = cap := by simpa using hz
    have hb := hw ((l + (cap - l)) * 8) (by simp [DataW.weights, Try.underlying24, Try.bytes51, lits, hz', Nat.min_eq_left hl])
    rw [reach_eq] at hb
    refine ⟨some x, l, cap, fun i => zs.getD i 0, rfl, ?_, fun hh => (by cases hh), by omega, hl, fun i hi => ?_⟩
    · by_cases h0 : 0 < l
      · have ha := spot_none (by simpa using hcell 0 (by omega))
        rw [ha] at hcell ⊢
        refine ⟨x.block, x.off, fun _ => rfl, fun i hi => ?_⟩
        have := hcell i (by omega)
        rwa [add_none] at this
      · exact ⟨0, 0, fun hh => absurd hh h0, fun i hi => by omega⟩
    · refine wf_u64 (hwz _ ?_)
      show zs.getD i 0 ∈ zs
      rw [List.getD_eq_getElem?_getD, List.getElem?_eq_getElem (by omega)]
      exact List.getElem_mem _

end
end Go.Proofs.Ytgahdclbaifcbaa

