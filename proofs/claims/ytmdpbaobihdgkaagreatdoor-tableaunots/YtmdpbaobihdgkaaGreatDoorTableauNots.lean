/- PROVED: for every formula without a ring and every word, watchkeep.TableauNots returns true and leaves them as they were; the package variables that it reads begin as the program text lays them (the tied card). No other condition. -/
import Derived.Test.YtmdpbaobihdgkaaGreatDoorABocJ
import Derived.Test.YtmdpbaobihdgkaaGreatDoorOpenFJ
import Derived.Test.YtmdpbaobihdgkaaGreatDoorTie
import Derived.Test.YtmdpbaobihdgkaaGreatDoorCards
namespace Go.Proofs.YtmdpbaobihdgkaaGreatDoor
open Go.ChangeShapes Go.WideShapes Go.ChangeAt Go.RowKit Go.Deep
set_option maxRecDepth 100000 in
theorem tableauNots_lifted (os : Os) (started : os.Started) (H : Type) (enc : TypeId × Value → H) :
  ReturnsInHanded {} Tryz.checked os 4 .any (fun w args => (Rows.tableauNotsSpec.pre enc Tryz.prog Tryz.f4 Rows.tableauNotsRow.domain false w args ∧ laidMetH Tryz.prog Rows.tableauNotsRow.laid w) ∧ sizedMet enc Tryz.prog Tryz.f4 (OpenSpec.ofChange Rows.tableauNotsSpec) false w args)
   (Rows.tableauNotsSpec.post enc Tryz.prog Tryz.f4 false true false false) := by
 refine returns_and_shaped (C := Tryz.checked) (X := fun w _ => laidMetH Tryz.prog Rows.tableauNotsRow.laid w) (fun _ _ _ hh h => h.of_heap hh) Tryz.own started (by kernel_rfl) Tryz.func4
  (ChangeSpec.witness_shaped (enc := enc) (C := Tryz.checked) (os := os) (X := fun w _ => laidMetH Tryz.prog Rows.tableauNotsRow.laid w) false (World.laidAll Tryz.prog os Rows.tableauNotsRow.laid) #[.agg #[.int .i64 0, .int .i64 0, .slice none 0 0], .agg #[.slice none 0 0, .slice none 0 0]] 8 (World.laidAll_os _ _ _)
   (World.shaped_of_ZipB (by kernel_rfl) (by kernel_rfl)) (by kernel_rfl) (by kernel_rfl) (by kernel_rfl)
   (by rw [MakeChecks.laidMetH_plain _ _ _ (by kernel_rfl)]; exact laidMet_laidAll _ (by kernel_rfl) (by kernel_rfl))) ?_
 intro W base args ds gs before hval0 hW _ hsz0 hL hsh
 have hsz : (DataW.weightsEach Tryz.prog (Tryz.f4.params.toList ++ Rows.tableauNotsSpec.plain.varTypes Tryz.prog) (ds ++ gs)).all (· ≤ reachBytes) = true := hsz0
 clear hsz0
 have hval : ∀ (j : Nat) t v, Tryz.f4.params[j]? = some t → args[j]? = some v → Value.okWide Tryz.prog W .any base t v := hval0
 have hW' := hW
 obtain ⟨p, q, hA0, hV, rfl, hfz, _⟩ := hW
 have hA : DataW.TrodAll enc Tryz.prog W 0 (fun _ => true) true Tryz.f4.params.toList args.toList ds p := hA0
 rw [Tryz.params4] at hA hval hsz
 obtain ⟨v0, vs0, d0, ds0, p0, q0, hargs, rfl, rfl, h0, r0⟩ := trodAll_cons hA
 obtain ⟨v1, vs1, d1, ds1, p1, q1, rfl, rfl, rfl, h1, r1⟩ := trodAll_cons r0
 obtain ⟨rfl, rfl, rfl⟩ := trodAll_nil r1
 obtain rfl : args = #[v0, v1] := by cases args; simp_all
 obtain ⟨rfl, rfl⟩ := trodVars_none hV
 have lt0 : ∀ x ∈ p0, x.block < W.heap.size := by obtain ⟨m, hm⟩ := h0; exact DataW.trod_lt m _ _ _ hm
 have lt1 : ∀ x ∈ p1, x.block < W.heap.size := by obtain ⟨m, hm⟩ := h1; exact DataW.trod_lt m _ _ _ hm
 obtain ⟨t0, a0, cap0, rfl, hK0, hc0⟩ := open_fml (hval 0 24 v0 rfl rfl) h0
 obtain ⟨sa, s, sc, la, m, lc, S, L, rfl, hWd, hsn, hln, _, _⟩ := open_wd (hval 1 27 v1 rfl rfl) h1 (weights_le hsz (j := 1) (t := 27) rfl rfl)
 rw [MakeChecks.laidMetH_plain _ _ _ (by kernel_rfl)] at hL
 have hkc := kc_of hsh hL (by kernel_rfl) (.tail _ (.head _))
 have hT := tb_of hsh hL (by kernel_rfl) (.head _)
 clear hA0 hval0
 refine (tableauNots_walk (cap := cap0) ⟨hkc, hK0, hc0, hWd, hsn, hln⟩ hT).mono fun e W' ⟨he, bel⟩ => ?_
 subst he
 exact ⟨_, rfl, _, _, _, [], _, [], hW', trodAll_mk1 (shut_bool Tryz.underlying4 _),
  trodAll_cons_mk (Below.trod Tryz.laidOut (by kernel_rfl) (of_decide_eq_true (by kernel_rfl)) h0 bel lt0) (trodAll_cons_mk (Below.trod Tryz.laidOut (by kernel_rfl) (of_decide_eq_true (by kernel_rfl)) h1 bel lt1) trodAll_mk0), rfl, bel.frame _, fun h => by cases h⟩
theorem tableauNots_holds : Rows.TableauNotsSaid :=
 OpenClaim.holds_of_wide 4 Tryz.f4 rfl rfl rfl rfl rfl rfl rfl ⟨rfl, rfl, rfl, rfl, rfl⟩ rfl rfl rfl rfl rfl (by kernel_rfl) Tryz.func4 (by kernel_rfl)
  (of_decide_eq_true (by kernel_rfl)) (by unfold Func.isWrapper; first | (rw [if_pos (by decide +kernel)]; kernel_rfl) | (rw [if_neg (by decide +kernel)]; exact ⟨rfl, rfl⟩))
  (fun os started H enc _ => tableauNots_lifted os started H enc)
theorem tableauNots_card : Rows.TableauNotsCardSaid :=
 Claim7.holds_tied_plain_at .later [] [.data, .data] true Rows.tableauNotsCard.stood.harness false
  tableauNots_holds (fun _ h => by cases h) (by kernel_rfl) (fun _ h => by cases h) tableauNots_row_tie rfl ⟨rfl, rfl⟩ (by kernel_rfl) rfl
  (fun f fn hf hfn => by
   obtain rfl : f = 4 := Option.some.inj ((show Tryz.prog.funcNamed Rows.tableauNotsRow.func = some 4 by kernel_rfl).symm.trans hf) |>.symm
   obtain rfl : fn = Tryz.f4 := (Option.some.inj (Tryz.func4.symm.trans hfn)).symm
   exact ⟨by kernel_rfl, fun j t ht => by
    rw [Tryz.params4] at ht
    have h3 : t = 24 ∨ t = 27 := by
     rcases j with _ | j
     ·simp at ht; exact Or.inl ht.symm
     rcases j with _ | j
     ·simp at ht; exact Or.inr (ht.symm)
     simp at ht
    rcases h3 with rfl | rfl
    ·exact (show Tryz.prog.wantsStandIn 24 = false by kernel_rfl)
    ·exact (show Tryz.prog.wantsStandIn 27 = false by kernel_rfl)⟩)
  (by kernel_rfl)
#print axioms tableauNots_card
end Go.Proofs.YtmdpbaobihdgkaaGreatDoor
