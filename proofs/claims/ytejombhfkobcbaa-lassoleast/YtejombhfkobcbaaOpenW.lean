/- What came in, opened: a word. -/
import Derived.Test.YtejombhfkobcbaaTur
import Derived.ProofKit
import Derived.OpenShut
import Derived.ShutString
import Derived.ChangeOld
import Derived.SizedLaws
import Derived.Deep.Slices
import Derived.Deep.Strs
import Derived.Lib.SmallJoins
namespace Go.Proofs.Ytejombhfkobcbaa
open Go.ChangeShapes Go.WideShapes Go.ChangeAt Go.RowKit Go.Deep Go.Joins

theorem Try.own : ownKnob Try.prog.godebug = none := by kernel_rfl
theorem Try.laidOut : laidOutB Try.prog = true := by kernel_rfl
theorem Try.cells3 : Try.prog.cellsOf 3 = 1 := by kernel_rfl
theorem Try.cells34 : Try.prog.cellsOf 34 = 1 := by kernel_rfl
theorem Try.cells24 : Try.prog.cellsOf 24 = 2 := by kernel_rfl
theorem Try.bytes34 : Try.prog.bytesOf 34 = 8 := by kernel_rfl
theorem reach_eq : reachBytes = 140737488351232 := rfl

theorem weights_le {H : Type} {P : Program} {ts : List TypeId} {ds : List (DataW H)} (h : (DataW.weightsEach P ts ds).all (· ≤ reachBytes) = true) {j : Nat} {t : TypeId} {d : DataW H}
    (ht : ts[j]? = some t) (hd : ds[j]? = some d) : ∀ n ∈ d.weights P t, n ≤ reachBytes :=
  fun _ hn => of_decide_eq_true (List.all_eq_true.1 h _ (DataW.weights_mem_each ht hd _ hn))

theorem add_none (b o k : Nat) : (⟨b, o, none⟩ : Addr).add k = ⟨b, o + k, none⟩ := by
  unfold Addr.add
  split <;> simp_all

section
variable {H : Type} {enc : TypeId × Value → H} {W : World} {held : Bool}

theorem spot_none {x : Addr} {v : Value} (h : W.cell? (x.add 0) = some v) : x = ⟨x.block, x.off, none⟩ := by
  obtain ⟨b, o, s⟩ := x
  have hs : s = none := by simpa [Addr.add] using World.cell?_spot h
  subst hs
  rfl

theorem wf_u64 {z : Int} (h : (Lit.int .u64 z).wf = true) : 0 ≤ z ∧ z < 18446744073709551616 := by
  have e1 : IntKind.u64.min = 0 := by decide
  have e2 : IntKind.u64.max = 18446744073709551615 := by decide
  simp [Lit.wf] at h
  omega

theorem wf_i64 {z : Int} (h : (Lit.int .i64 z).wf = true) : z ≤ 9223372036854775807 ∧ -9223372036854775808 ≤ z := by
  have e1 : IntKind.i64.min = -9223372036854775808 := by decide
  have e2 : IntKind.i64.max = 9223372036854775807 := by decide
  simp [Lit.wf] at h
  omega

theorem open_ltrs {fuel : Nat} {v : Value} {y : DataW H × List MemPlace} (h : DataW.trod enc Try.prog W 0 (fun _ => true) held fuel 22 [v] = some y) (hw : ∀ n ∈ y.1.weights Try.prog 22, n ≤ reachBytes) :
    ∃ a n c Z, v = .slice a n c ∧ RowU W a n Z ∧ (a = none → n = 0 ∧ c = 0) ∧ n ≤ 140737488355328 ∧ n ≤ c ∧ ∀ i, i < n → 0 ≤ Z i ∧ Z i < 18446744073709551616 := by
  rcases open_ints Try.underlying22 Try.underlying34 Try.cells34 h with ⟨hcs, hx⟩ | ⟨x, l, cap, zs, hcs, _, hl, hm, hz, hx, hcell, hwz⟩
  · cases hcs
    exact ⟨none, 0, 0, fun _ => 0, rfl, ⟨0, 0, fun hh => by omega, fun i hi => by omega⟩, fun _ => ⟨rfl, rfl⟩, by omega, Nat.le_refl _, fun i hi => by omega⟩
  · cases hcs
    subst hx
    have hz' : zs.length = cap := by simpa using hz
    have hb := hw ((l + (cap - l)) * 8) (by simp [DataW.weights, Try.underlying22, Try.bytes34, lits, hz', Nat.min_eq_left hl])
    rw [reach_eq] at hb
    refine ⟨some x, l, cap, fun i => zs.getD i 0, rfl, ?_, fun hh => (by cases hh), by omega, hl, fun i hi => ?_⟩
    · by_cases h0 : 0 < l
      · have ha := spot_none (by simpa using hcell 0 (by omega))
        rw [ha] at hcell ⊢
        refine ⟨x.block, x.off, fun _ => rfl, fun i hi => ?_⟩
        have := hcell i (by omega)
        rwa [add_none] at this
      · exact ⟨0, 0, fun hh => absurd hh h0, fun i hi => by omega⟩
    · refine wf_u64 (hwz _ ?_)
      show zs.getD i 0 ∈ zs
      rw [List.getD_eq_getElem?_getD, List.getElem?_eq_getElem (by omega)]
      exact List.getElem_mem _

set_option maxRecDepth 100000 in
theorem open_wd {r : Reach} {b0 : Nat} {v : Value} {d : DataW H} {p : List MemPlace} (hv : Value.okWide Try.prog W r b0 24 v) (h : DataW.Trod enc Try.prog W 0 (fun _ => true) held 24 v d p) (hw : ∀ n ∈ d.weights Try.prog 24, n ≤ reachBytes) :
    ∃ sa s sc la m lc S L, v = .agg #[.slice sa s sc, .slice la m lc] ∧ Wd W sa s la m S L ∧ (sa = none → s = 0 ∧ sc = 0) ∧ (la = none → m = 0 ∧ lc = 0) ∧ s ≤ sc ∧ m ≤ lc := by
  obtain ⟨v0, v1, y0, y1, n, rfl, rfl, _, h0, h1⟩ := open_agg2 Try.underlying24 (by kernel_rfl) Try.cells24 hv h
  obtain ⟨sa, s, sc, S, rfl, hS, hsn, hs47, hsc, hsu⟩ := open_ltrs h0 (fun n hn => hw n (by simp only [DataW.weights, Try.underlying24]; exact List.mem_append.2 (Or.inl hn)))
  obtain ⟨la, m, lc, L, rfl, hL, hln, hl47, hlc, hlu⟩ := open_ltrs h1 (fun n hn => hw n (by simp only [DataW.weights, Try.underlying24]; exact List.mem_append.2 (Or.inr (List.mem_append.2 (Or.inl hn)))))
  exact ⟨sa, s, sc, la, m, lc, S, L, rfl, ⟨hS, hL, hs47, hl47, hsu, hlu⟩, hsn, hln, hsc, hlc⟩

end
end Go.Proofs.Ytejombhfkobcbaa
