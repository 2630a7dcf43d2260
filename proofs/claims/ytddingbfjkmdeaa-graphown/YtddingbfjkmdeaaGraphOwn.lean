/- PROVED: for every graph and every list of nodes handed in, watchkeep.GraphOwn returns true and leaves them as they were. No condition. -/
import Derived.Test.YtddingbfjkmdeaaOwnWalk2
import Derived.Test.YtddingbfjkmdeaaOpen2
namespace Go.Proofs.Ytddingbfjkmdeaa
open Go.ChangeShapes Go.WideShapes Go.ChangeAt Go.RowKit Go.Deep

section
variable {H : Type} {enc : TypeId × Value → H} {W : World} {held : Bool}

theorem open_grn {ga : Option Addr} {G gc : Nat} {d : DataW H} {p : List MemPlace} (h : DataW.Trod enc Try.prog W 0 (fun _ => true) held 40 (.slice ga G gc) d p) (hw : ∀ n ∈ d.weights Try.prog 40, n ≤ reachBytes) :
    ∃ L Z, GrN W ga G L Z ∧ 24 * G ≤ 140737488351232 ∧ ∀ r, r < G → L r ≤ 17592186043904 := by
  obtain ⟨fuel, hf⟩ := h
  rcases open_int_rows Try.underlying40 Try.underlying28 Try.underlying3 Try.cells30 Try.cells3 hf with ⟨hcs, _⟩ | ⟨a, len, cap, A, L, C, Z, hcs, _, hl, hm, hx, hrows⟩
  · simp [Value.cells] at hcs
    obtain ⟨rfl, rfl, rfl⟩ := hcs
    exact ⟨fun _ => 0, fun _ _ => 0, ⟨0, 0, fun hh => by omega, fun r hr => by omega⟩, by omega, fun r hr => by omega⟩
  · simp [Value.cells] at hcs
    obtain ⟨rfl, rfl, rfl⟩ := hcs
    simp only [Prod.mk.injEq] at hx
    obtain ⟨rfl, _⟩ := hx
    have hbig := hw ((G + (gc - G)) * 24) (by simp [DataW.weights, Try.underlying40, Try.bytes30])
    rw [reach_eq] at hbig
    refine ⟨L, fun r i => (Z r).getD i 0, ?_, by omega, fun r hr => ?_⟩
    · by_cases h0 : 0 < G
      · obtain ⟨b, o, s⟩ := a
        have hs : s = none := by simpa [Addr.add] using World.cell?_spot (hrows 0 (by omega)).1
        subst hs
        refine ⟨b, o, fun _ => rfl, fun r hr => ⟨A r, C r, ?_, row_of (fun i hi => ?_), fun hA => ?_⟩⟩
        · rw [← add_none]; exact (hrows r (by omega)).1
        · obtain ⟨_, h1, _, h3, _, h5, h6⟩ := hrows r (by omega)
          cases hA : A r with
          | none => have := h5 hA; omega
          | some x => exact ⟨x, rfl, (h6 x hA).2 i (by omega)⟩
        · obtain ⟨_, h1, _, h3, _, h5, h6⟩ := hrows r (by omega)
          have := h5 hA
          omega
      · exact ⟨0, 0, fun hh => absurd hh h0, fun r hr => by omega⟩
    · obtain ⟨_, h1, _, h3, _, h5, h6⟩ := hrows r (by omega)
      cases hA : A r with
      | none => have := h5 hA; omega
      | some x =>
        have hin := hw ((L r + (C r - L r)) * 8) (by
          simp only [DataW.weights, Try.underlying40, List.mem_cons, List.mem_append]
          refine Or.inr (Or.inl (weightsAll_mem (List.mem_map.2 ⟨r, List.mem_range.2 hr, rfl⟩) _ ?_))
          simp [intRow, hA, lits, DataW.weights, Try.underlying28, Try.bytes3, h3, Nat.min_eq_left h1])
        rw [reach_eq] at hin
        omega

end

set_option maxRecDepth 100000 in
theorem graphOwn_lifted (os : Os) (started : os.Started) (H : Type) (enc : TypeId × Value → H) :
    ReturnsInHanded {} Try.checked os 5 .any (Rows.graphOwnSpec.pre6 enc Try.prog Try.f5 Rows.graphOwnRow.domain false) (Rows.graphOwnSpec.post enc Try.prog Try.f5 false true false false) := by
  refine returnsInHanded_of_change_sized (C := Try.checked) Try.own started (by kernel_rfl) Try.func5
    (ChangeSpec.witness6 (enc := enc) (C := Try.checked) false ⟨#[], #[.slice none 0 0, .slice none 0 0], []⟩ 8 (by kernel_rfl) (by kernel_rfl) (by kernel_rfl) (by kernel_rfl)) ?_
  intro W base args ds gs before hval0 hW _ hsz0 _
  have hsz : (DataW.weightsEach Try.prog (Try.f5.params.toList ++ Rows.graphOwnSpec.plain.varTypes Try.prog) (ds ++ gs)).all (· ≤ reachBytes) = true := hsz0
  clear hsz0
  have hval : ∀ (j : Nat) t v, Try.f5.params[j]? = some t → args[j]? = some v → Value.okWide Try.prog W .any base t v := hval0
  have hW' := hW
  obtain ⟨p, q, hA0, hV, rfl, hfz, _⟩ := hW
  have hA : DataW.TrodAll enc Try.prog W 0 (fun _ => true) true Try.f5.params.toList args.toList ds p := hA0
  rw [Try.params5] at hA hval hsz
  obtain ⟨v0, vs0, d0, ds0, p0, q0, hargs, rfl, rfl, h0, r0⟩ := trodAll_cons hA
  obtain ⟨v1, vs1, d1, ds1, p1, q1, rfl, rfl, rfl, h1, r1⟩ := trodAll_cons r0
  obtain ⟨rfl, rfl, rfl⟩ := trodAll_nil r1
  obtain rfl : args = #[v0, v1] := by cases args; simp_all
  obtain ⟨rfl, rfl⟩ := trodVars_none hV
  obtain ⟨a0, n0, c0, rfl⟩ := okWide_slice Try.underlying40 (hval 0 40 v0 rfl rfl)
  obtain ⟨a1, n1, c1, rfl⟩ := okWide_slice Try.underlying28 (hval 1 28 v1 rfl rfl)
  have lt0 : ∀ x ∈ p0, x.block < W.heap.size := by obtain ⟨m, hm⟩ := h0; exact DataW.trod_lt m _ _ _ hm
  have lt1 : ∀ x ∈ p1, x.block < W.heap.size := by obtain ⟨m, hm⟩ := h1; exact DataW.trod_lt m _ _ _ hm
  obtain ⟨L, Z, hG, hGc, hL⟩ := open_grn h0 (weights_le hsz (j := 0) (t := 40) rfl rfl)
  obtain ⟨Y, hY, hYn, hYc, hYb, _, _⟩ := open_row h1 (weights_le hsz (j := 1) (t := 28) rfl rfl)
  clear hA0 hval0
  refine (graphOwn_walk a0 n0 c0 L Z a1 n1 c1 Y W hGc hL (by omega) hG hY hYn).mono fun e W' ⟨he, bel⟩ => ?_
  subst he
  exact ⟨_, rfl, _, _, _, [], _, [], hW', trodAll_mk1 (shut_bool Try.underlying4 _),
    trodAll_cons_mk (Below.trod Try.laidOut (by kernel_rfl) (of_decide_eq_true (by kernel_rfl)) h0 bel lt0) (trodAll_cons_mk (Below.trod Try.laidOut (by kernel_rfl) (of_decide_eq_true (by kernel_rfl)) h1 bel lt1) trodAll_mk0), rfl, bel.frame _, fun h => by cases h⟩

theorem graphOwn_holds : Rows.GraphOwnSaid :=
  OpenClaim.holds_of_wide 5 Try.f5 rfl rfl rfl rfl rfl rfl rfl ⟨rfl, rfl, rfl, rfl, rfl⟩ rfl rfl rfl rfl rfl (by kernel_rfl) Try.func5 (by kernel_rfl)
    (of_decide_eq_true (by kernel_rfl)) (by unfold Func.isWrapper; first | (rw [if_pos (by decide +kernel)]; kernel_rfl) | (rw [if_neg (by decide +kernel)]; exact ⟨rfl, rfl⟩))
    (fun os started H enc _ => graphOwn_lifted os started H enc)

#print axioms graphOwn_holds
end Go.Proofs.Ytddingbfjkmdeaa
