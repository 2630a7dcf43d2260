/- PROVED: for every world, watchlaw.WorldSays returns true and leaves it as it was; no condition. -/
import Derived.Test.YtgahdclbaifcbaaWorldSaysWalk
import Derived.Test.YtgahdclbaifcbaaOpenAJ
import Derived.Test.YtgahdclbaifcbaaRows
namespace Go.Proofs.Ytgahdclbaifcbaa
open Go.ChangeShapes Go.WideShapes Go.ChangeAt Go.RowKit Go.Deep

section
variable {H : Type} {enc : TypeId × Value → H} {W : World} {held : Bool}
set_option maxRecDepth 100000 in
theorem open_world8 {r : Reach} {b0 : Nat} {v : Value} {d : DataW H} {p : List MemPlace} (hv : Value.okWide Try.prog W r b0 26 v) (h : DataW.Trod enc Try.prog W 0 (fun _ => true) held 26 v d p) (hw : ∀ n ∈ d.weights Try.prog 26, n ≤ reachBytes) :
    ∃ A : Wx, v = A.val ∧ Ww W A ∧ ∀ r, r < A.G → A.L r * 8 ≤ 140737488355328 := by
  obtain ⟨cs, rfl, hsz⟩ := okWide_struct Try.underlying26 hv
  obtain ⟨c0, c1, c2, c3, rfl⟩ := array4 (hsz.trans Try.cells26)
  obtain ⟨fuel, hf⟩ := h
  obtain ⟨xs, n, _, hx, _, hxl, hel⟩ := DataW.trod_struct Try.underlying26 hf
  match xs, hxl with
  | [y0, y1, y2, y3], _ =>
    have g0 : DataW.trod enc Try.prog W 0 (fun _ => true) held n 22 [c0] = some y0 := hel 0 _ rfl
    have g1 : DataW.trod enc Try.prog W 0 (fun _ => true) held n 23 [c1] = some y1 := hel 1 _ rfl
    have g2 : DataW.trod enc Try.prog W 0 (fun _ => true) held n 24 [c2] = some y2 := hel 2 _ rfl
    have g3 : DataW.trod enc Try.prog W 0 (fun _ => true) held n 23 [c3] = some y3 := hel 3 _ rfl
    simp only [Prod.mk.injEq] at hx
    obtain ⟨rfl, _⟩ := hx
    have hwe : ∀ n, n ∈ y0.1.weights Try.prog 22 ∨ n ∈ y1.1.weights Try.prog 23 ∨ n ∈ y2.1.weights Try.prog 24 ∨ n ∈ y3.1.weights Try.prog 23 → n ≤ reachBytes := by
      intro n hn
      refine hw n ?_
      simp only [DataW.weights, Try.underlying26]
      rcases hn with h | h | h | h
      · exact List.mem_append.2 (Or.inl h)
      · exact List.mem_append.2 (Or.inr (List.mem_append.2 (Or.inl h)))
      · exact List.mem_append.2 (Or.inr (List.mem_append.2 (Or.inr (List.mem_append.2 (Or.inl h)))))
      · exact List.mem_append.2 (Or.inr (List.mem_append.2 (Or.inr (List.mem_append.2 (Or.inr (List.mem_append.2 (Or.inl h)))))))
    obtain ⟨sa, sn, sc, S, rfl, hS, _, hs47, _⟩ := open_row g0 (fun n hn => hwe n (Or.inl hn))
    obtain ⟨na, G, nc, L, Z, rfl, hG, hg47, hl47, _, _, hl8⟩ := open_gr g1 (fun n hn => hwe n (Or.inr (Or.inl hn)))
    obtain ⟨la, M, lc, Lb, rfl, hM, _, hm47, _, hmu⟩ := open_ltrs g2 (fun n hn => hwe n (Or.inr (Or.inr (Or.inl hn))))
    obtain ⟨fa, K, fc, FL, FZ, rfl, hF, hk47, hf47, _⟩ := open_gr g3 (fun n hn => hwe n (Or.inr (Or.inr (Or.inr hn))))
    refine ⟨⟨sa, sn, sc, na, G, nc, la, M, lc, fa, K, fc, S, L, Z, fun i => (Lb i).toNat, FL, FZ⟩, rfl,
      ⟨hS, hG, RowU.same hM fun i hi => ?_, hF, hs47, hg47, hl47, hm47, hk47, hf47, fun i hi => ?_⟩, hl8⟩
    · have := hmu i hi; show Lb i = ((Lb i).toNat : Int); omega
    · have := hmu i hi; show (Lb i).toNat < _; omega
end

set_option maxRecDepth 100000 in
theorem worldSays_lifted (os : Os) (started : os.Started) (H : Type) (enc : TypeId × Value → H) :
    ReturnsInHanded {} Try.checked os 3 .any (Rows.worldSaysSpec.pre6 enc Try.prog Try.f3 Rows.worldSaysRow.domain false) (Rows.worldSaysSpec.post enc Try.prog Try.f3 false true false false) := by
  refine returnsInHanded_of_change_sized (C := Try.checked) Try.own started (by kernel_rfl) Try.func3
    (ChangeSpec.witness6 (enc := enc) (C := Try.checked) false ⟨#[], #[.agg #[.slice none 0 0, .slice none 0 0, .slice none 0 0, .slice none 0 0]], []⟩ 8 (by kernel_rfl) (by kernel_rfl) (by kernel_rfl) (by kernel_rfl)) ?_
  intro W base args ds gs before hval0 hW _ hsz0 _
  have hsz : (DataW.weightsEach Try.prog (Try.f3.params.toList ++ Rows.worldSaysSpec.plain.varTypes Try.prog) (ds ++ gs)).all (· ≤ reachBytes) = true := hsz0
  clear hsz0
  have hval : ∀ (j : Nat) t v, Try.f3.params[j]? = some t → args[j]? = some v → Value.okWide Try.prog W .any base t v := hval0
  have hW' := hW
  obtain ⟨p, q, hA0, hV, rfl, hfz, _⟩ := hW
  have hA : DataW.TrodAll enc Try.prog W 0 (fun _ => true) true Try.f3.params.toList args.toList ds p := hA0
  rw [Try.params3] at hA hval hsz
  obtain ⟨v0, vs0, d0, ds0, p0, q0, hargs, rfl, rfl, h0, r0⟩ := trodAll_cons hA
  obtain ⟨rfl, rfl, rfl⟩ := trodAll_nil r0
  obtain rfl : args = #[v0] := by cases args; simp_all
  obtain ⟨rfl, rfl⟩ := trodVars_none hV
  have lt0 : ∀ x ∈ p0, x.block < W.heap.size := by obtain ⟨m, hm⟩ := h0; exact DataW.trod_lt m _ _ _ hm
  obtain ⟨A0, rfl, hA0w, hA08⟩ := open_world8 (hval 0 26 v0 rfl rfl) h0 (weights_le hsz (j := 0) (t := 26) rfl rfl)
  clear hA0 hval0
  refine (worldSays_walk A0 W hA0w hA08).mono fun e W' ⟨he, bel⟩ => ?_
  subst he
  exact ⟨_, rfl, _, _, _, [], _, [], hW', trodAll_mk1 (shut_bool Try.underlying4 _),
    trodAll_cons_mk (Below.trod Try.laidOut (by kernel_rfl) (of_decide_eq_true (by kernel_rfl)) h0 bel lt0) trodAll_mk0, rfl, bel.frame _, fun h => by cases h⟩

theorem worldSays_holds : Rows.WorldSaysSaid :=
  OpenClaim.holds_of_wide 3 Try.f3 rfl rfl rfl rfl rfl rfl rfl ⟨rfl, rfl, rfl, rfl, rfl⟩ rfl rfl rfl rfl rfl (by kernel_rfl) Try.func3 (by kernel_rfl)
    (of_decide_eq_true (by kernel_rfl)) (by unfold Func.isWrapper; first | (rw [if_pos (by decide +kernel)]; kernel_rfl) | (rw [if_neg (by decide +kernel)]; exact ⟨rfl, rfl⟩))
    (fun os started H enc _ => worldSays_lifted os started H enc)

#print axioms worldSays_holds
end Go.Proofs.Ytgahdclbaifcbaa
