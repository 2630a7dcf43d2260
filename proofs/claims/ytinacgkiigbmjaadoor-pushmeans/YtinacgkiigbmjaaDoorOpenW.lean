/- What came in, opened: a word. -/
import Derived.Test.YtinacgkiigbmjaaDoorOpenF
import Derived.Test.YtinacgkiigbmjaaDoorHldF
namespace Go.Proofs.YtinacgkiigbmjaaDoor
open Go.ChangeShapes Go.WideShapes Go.ChangeAt Go.RowKit Go.Deep Go.Joins


section
variable {H : Type} {enc : TypeId × Value → H} {W : World} {held : Bool}

theorem wf_u64 {z : Int} (h : (Lit.int .u64 z).wf = true) : 0 ≤ z ∧ z < 18446744073709551616 := by
  have e1 : IntKind.u64.min = 0 := by decide
  have e2 : IntKind.u64.max = 18446744073709551615 := by decide
  simp [Lit.wf] at h
  omega

theorem wf_i64 {z : Int} (h : (Lit.int .i64 z).wf = true) : z ≤ 9223372036854775807 ∧ -9223372036854775808 ≤ z := by
  have e1 : IntKind.i64.min = -9223372036854775808 := by decide
  have e2 : IntKind.i64.max = 9223372036854775807 := by decide
  simp [Lit.wf] at h
  omega

theorem z_le {z : Int} {d : DataW H} {p : List MemPlace} (h : DataW.Trod enc Tryd.prog W 0 (fun _ => true) held 3 (.int .i64 z) d p) : z ≤ 9223372036854775807 ∧ -9223372036854775808 ≤ z := by
  obtain ⟨fuel, hf⟩ := h
  obtain ⟨s, hcs, _, hwf⟩ := DataW.trod_int Tryd.underlying3 hf
  simp [Value.cells] at hcs
  rw [hcs]
  exact wf_i64 hwf

theorem open_ltrs {fuel : Nat} {v : Value} {y : DataW H × List MemPlace} (h : DataW.trod enc Tryd.prog W 0 (fun _ => true) held fuel 32 [v] = some y) (hw : ∀ n ∈ y.1.weights Tryd.prog 32, n ≤ reachBytes) :
    ∃ a n c Z, v = .slice a n c ∧ RowU W a n Z ∧ (a = none → n = 0 ∧ c = 0) ∧ n ≤ 140737488355328 ∧ n ≤ c ∧ ∀ i, i < n → 0 ≤ Z i ∧ Z i < 18446744073709551616 := by
  rcases open_ints Tryd.underlying32 Tryd.underlying61 Tryd.cells30 h with ⟨hcs, hx⟩ | ⟨x, l, cap, zs, hcs, _, hl, hm, hz, hx, hcell, hwz⟩
  · cases hcs
    exact ⟨none, 0, 0, fun _ => 0, rfl, ⟨0, 0, fun hh => by omega, fun i hi => by omega⟩, fun _ => ⟨rfl, rfl⟩, by omega, Nat.le_refl _, fun i hi => by omega⟩
  · cases hcs
    subst hx
    have hz' : zs.length = cap := by simpa using hz
    have hb := hw ((l + (cap - l)) * 8) (by simp [DataW.weights, Tryd.underlying32, Tryd.bytes30, lits, hz', Nat.min_eq_left hl])
    rw [reach_eq] at hb
    refine ⟨some x, l, cap, fun i => zs.getD i 0, rfl, ?_, fun hh => (by cases hh), by omega, hl, fun i hi => ?_⟩
    · by_cases h0 : 0 < l
      · have ha := spot_none (by simpa using hcell 0 (by omega))
        rw [ha] at hcell ⊢
        refine ⟨x.block, x.off, fun _ => rfl, fun i hi => ?_⟩
        have := hcell i (by omega)
        rwa [add_none] at this
      · exact ⟨0, 0, fun hh => absurd hh h0, fun i hi => by omega⟩
    · refine wf_u64 (hwz _ ?_)
      show zs.getD i 0 ∈ zs
      rw [List.getD_eq_getElem?_getD, List.getElem?_eq_getElem (by omega)]
      exact List.getElem_mem _

set_option maxRecDepth 100000 in
theorem open_wd {r : Reach} {b0 : Nat} {v : Value} {d : DataW H} {p : List MemPlace} (hv : Value.okWide Tryd.prog W r b0 34 v) (h : DataW.Trod enc Tryd.prog W 0 (fun _ => true) held 34 v d p) (hw : ∀ n ∈ d.weights Tryd.prog 34, n ≤ reachBytes) :
    ∃ sa s sc la m lc S L, v = .agg #[.slice sa s sc, .slice la m lc] ∧ Wd W sa s la m S L ∧ (sa = none → s = 0 ∧ sc = 0) ∧ (la = none → m = 0 ∧ lc = 0) ∧ s ≤ sc ∧ m ≤ lc := by
  obtain ⟨v0, v1, y0, y1, n, rfl, rfl, _, h0, h1⟩ := open_agg2 Tryd.underlying34 (by kernel_rfl) Tryd.cells27 hv h
  obtain ⟨sa, s, sc, S, rfl, hS, hsn, hs47, hsc, hsu⟩ := open_ltrs h0 (fun n hn => hw n (by simp only [DataW.weights, Tryd.underlying34]; exact List.mem_append.2 (Or.inl hn)))
  obtain ⟨la, m, lc, L, rfl, hL, hln, hl47, hlc, hlu⟩ := open_ltrs h1 (fun n hn => hw n (by simp only [DataW.weights, Tryd.underlying34]; exact List.mem_append.2 (Or.inr (List.mem_append.2 (Or.inl hn)))))
  exact ⟨sa, s, sc, la, m, lc, S, L, rfl, ⟨hS, hL, hs47, hl47, hsu, hlu⟩, hsn, hln, hsc, hlc⟩

end
end Go.Proofs.YtinacgkiigbmjaaDoor
