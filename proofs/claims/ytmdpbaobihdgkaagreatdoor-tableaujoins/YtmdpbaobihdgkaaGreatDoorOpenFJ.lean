/- What came in, opened: a formula, a list of names. What came in, opened: a word. -/
import Derived.ProofKit
import Derived.OpenShut
import Derived.ShutString
import Derived.ChangeOld
import Derived.SizedLaws
import Derived.Deep.Slices
import Derived.Deep.Strs
import Derived.Lib.SmallJoins
import Derived.Test.YtmdpbaobihdgkaaGreatDoorChkJ
import Derived.Test.YtmdpbaobihdgkaaGreatDoorHldFJ
namespace Go.Proofs.YtmdpbaobihdgkaaGreatDoor
open Go.ChangeShapes Go.WideShapes Go.ChangeAt Go.RowKit Go.Deep Go.Joins

theorem Tryz.own : ownKnob Tryz.prog.godebug = none := by kernel_rfl
theorem Tryz.laidOut : laidOutB Tryz.prog = true := by kernel_rfl
theorem Tryz.cells24 : Tryz.prog.cellsOf 24 = 3 := by kernel_rfl
theorem Tryz.cells3 : Tryz.prog.cellsOf 3 = 1 := by kernel_rfl
theorem Tryz.cells22 : Tryz.prog.cellsOf 22 = 1 := by kernel_rfl
theorem Tryz.cells30 : Tryz.prog.cellsOf 48 = 1 := by kernel_rfl
theorem Tryz.cells27 : Tryz.prog.cellsOf 27 = 2 := by kernel_rfl
theorem Tryz.bytes30 : Tryz.prog.bytesOf 48 = 8 := by kernel_rfl
theorem reach_eq : reachBytes = 140737488351232 := rfl

theorem weights_le {H : Type} {P : Program} {ts : List TypeId} {ds : List (DataW H)} (h : (DataW.weightsEach P ts ds).all (· ≤ reachBytes) = true) {j : Nat} {t : TypeId} {d : DataW H}
    (ht : ts[j]? = some t) (hd : ds[j]? = some d) : ∀ n ∈ d.weights P t, n ≤ reachBytes :=
  fun _ hn => of_decide_eq_true (List.all_eq_true.1 h _ (DataW.weights_mem_each ht hd _ hn))

theorem add_none (b o k : Nat) : (⟨b, o, none⟩ : Addr).add k = ⟨b, o + k, none⟩ := by
  unfold Addr.add
  split <;> simp_all

section
variable {H : Type} {enc : TypeId × Value → H} {W : World} {held : Bool}

theorem spot_none {x : Addr} {v : Value} (h : W.cell? (x.add 0) = some v) : x = ⟨x.block, x.off, none⟩ := by
  obtain ⟨b, o, s⟩ := x
  have hs : s = none := by simpa [Addr.add] using World.cell?_spot h
  subst hs
  rfl

set_option maxRecDepth 100000 in
theorem open_kds : ∀ (fuel : Nat) (v : Value) (y : DataW H × List MemPlace), DataW.trod enc Tryz.prog W 0 (fun _ => true) held fuel 22 [v] = some y →
    ∃ (a : Option Addr) (c cap : Nat) (kids : Fin c → Fml), v = .slice a c cap ∧ c ≤ 9223372036854775807 ∧ ∀ k n, Kds W ⟨k, n, c, kids⟩ a := by
  intro fuel
  induction fuel using Nat.strongRecOn with
  | ind fuel ih =>
  intro v y h
  rcases DataW.trod_slice Tryz.underlying22 h with ⟨hcs, _⟩ | ⟨a, len, cap, elems, rest, n, hfu, hcs, _, _, hl, hm, hlen, hel, _⟩
  · simp only [List.cons.injEq, and_true] at hcs
    exact ⟨none, 0, 0, fun i => i.elim0, hcs, by omega, fun k n => Kds.mk ⟨0, 0, fun hh => absurd hh (Nat.lt_irrefl 0), fun i hi => absurd hi (Nat.not_lt_zero i)⟩⟩
  · simp only [List.cons.injEq, and_true] at hcs
    have each : ∀ i, i < len → ∃ (t : Fml) (ai : Option Addr) (ci : Nat), W.cell? (a.add (i * 3)) = some (.int .i64 t.kind) ∧ W.cell? (a.add (i * 3 + 1)) = some (.int .i64 t.num) ∧ W.cell? (a.add (i * 3 + 2)) = some (.slice ai t.cnt ci) ∧ t.cnt ≤ 9223372036854775807 ∧ Kds W t ai := by
      intro i hi
      have hx := hel i hi
      rw [Tryz.cells24, List.getElem?_eq_getElem (by omega)] at hx
      obtain ⟨cs', h1, h2⟩ := Option.bind_eq_some_iff.1 hx
      obtain ⟨_, hlen', hcell⟩ := World.cells?_some h1
      obtain ⟨xs, k, hk, hxy, _, hxl, hf⟩ := DataW.trod_struct Tryz.underlying24 h2
      match xs, hxl, cs', hlen' with
      | [y0, y1, y2], _, [v0, v1, v2], _ =>
        have g0 := hf 0 _ rfl
        have g1 := hf 1 _ rfl
        have g2 := hf 2 _ rfl
        simp [Tryz.cells3, Tryz.cells22] at g0 g1 g2
        have e0 := hcell 0 (by omega)
        have e1 := hcell 1 (by omega)
        have e2 := hcell 2 (by omega)
        rw [add_add] at e0 e1 e2
        obtain ⟨z0, hz0, _, _⟩ := DataW.trod_int Tryz.underlying3 g0
        obtain ⟨z1, hz1, _, _⟩ := DataW.trod_int Tryz.underlying3 g1
        simp only [List.cons.injEq, and_true] at hz0 hz1
        obtain ⟨ai, c, ci, kids, hv, hc, hK⟩ := ih k (by omega) v2 y2 g2
        refine ⟨⟨z0, z1, c, kids⟩, ai, ci, ?_, ?_, ?_, hc, hK z0 z1⟩
        · rw [← hz0]; simpa using e0
        · rw [← hz1]; simpa using e1
        · rw [← hv]; simpa using e2
    have : Inhabited (Fml × Option Addr × Nat) := ⟨(Fml.leaf, none, 0)⟩
    have each' : ∀ i, i < len → ∃ q : Fml × Option Addr × Nat, W.cell? (a.add (i * 3)) = some (.int .i64 q.1.kind) ∧ W.cell? (a.add (i * 3 + 1)) = some (.int .i64 q.1.num) ∧ W.cell? (a.add (i * 3 + 2)) = some (.slice q.2.1 q.1.cnt q.2.2) ∧ q.1.cnt ≤ 9223372036854775807 ∧ Kds W q.1 q.2.1 := fun i hi => by
      obtain ⟨t, ai, ci, hh⟩ := each i hi
      exact ⟨(t, ai, ci), hh⟩
    obtain ⟨q, hq⟩ := choose_lt each'
    refine ⟨some a, len, cap, fun i => (q i).1, hcs, by unfold maxLen at hm; omega, fun k n => Kds.mk ?_⟩
    by_cases h0 : 0 < len
    · have ha := spot_none (by simpa using (hq 0 h0).1)
      rw [ha] at hq ⊢
      refine ⟨a.block, a.off, fun _ => rfl, fun i hi => ?_⟩
      have hi' : i < len := hi
      have ek : (Fml.mk k n len fun i => (q i).1).kid i = (q i).1 := dif_pos hi'
      rw [ek]
      obtain ⟨e1, e2, e3, e4, e5⟩ := hq i hi'
      rw [add_none] at e1 e2 e3
      exact ⟨_, _, e1, by rw [Nat.add_assoc]; exact e2, by rw [Nat.add_assoc]; exact e3, e4, e5⟩
    · exact ⟨0, 0, fun hh => absurd hh h0, fun i hi => absurd (show i < len from hi) (by omega)⟩

set_option maxRecDepth 100000 in
theorem open_fml {r : Reach} {b0 : Nat} {v : Value} {d : DataW H} {p : List MemPlace} (hv : Value.okWide Tryz.prog W r b0 24 v) (h : DataW.Trod enc Tryz.prog W 0 (fun _ => true) held 24 v d p) :
    ∃ (t : Fml) (a : Option Addr) (cap : Nat), v = .agg #[.int .i64 t.kind, .int .i64 t.num, .slice a t.cnt cap] ∧ Kds W t a ∧ t.cnt ≤ 9223372036854775807 := by
  obtain ⟨v0, v1, v2, y0, y1, y2, n, rfl, rfl, _, h0, h1, h2⟩ := open_agg3 Tryz.underlying24 (by kernel_rfl) Tryz.cells24 hv h
  obtain ⟨z0, hz0, _, _⟩ := DataW.trod_int Tryz.underlying3 h0
  obtain ⟨z1, hz1, _, _⟩ := DataW.trod_int Tryz.underlying3 h1
  simp only [List.cons.injEq, and_true] at hz0 hz1
  obtain ⟨a, c, cap, kids, rfl, hc, hK⟩ := open_kds n v2 y2 h2
  exact ⟨⟨z0, z1, c, kids⟩, a, cap, by rw [hz0, hz1], hK z0 z1, hc⟩

end
end Go.Proofs.YtmdpbaobihdgkaaGreatDoor

namespace Go.Proofs.YtmdpbaobihdgkaaGreatDoor
open Go.ChangeShapes Go.WideShapes Go.ChangeAt Go.RowKit Go.Deep Go.Joins


section
variable {H : Type} {enc : TypeId × Value → H} {W : World} {held : Bool}

theorem wf_u64 {z : Int} (h : (Lit.int .u64 z).wf = true) : 0 ≤ z ∧ z < 18446744073709551616 := by
  have e1 : IntKind.u64.min = 0 := by decide
  have e2 : IntKind.u64.max = 18446744073709551615 := by decide
  simp [Lit.wf] at h
  omega

theorem open_ltrs {fuel : Nat} {v : Value} {y : DataW H × List MemPlace} (h : DataW.trod enc Tryz.prog W 0 (fun _ => true) held fuel 25 [v] = some y) (hw : ∀ n ∈ y.1.weights Tryz.prog 25, n ≤ reachBytes) :
    ∃ a n c Z, v = .slice a n c ∧ RowU W a n Z ∧ (a = none → n = 0 ∧ c = 0) ∧ n ≤ 140737488355328 ∧ n ≤ c ∧ ∀ i, i < n → 0 ≤ Z i ∧ Z i < 18446744073709551616 := by
  rcases open_ints Tryz.underlying25 Tryz.underlying48 Tryz.cells30 h with ⟨hcs, hx⟩ | ⟨x, l, cap, zs, hcs, _, hl, hm, hz, hx, hcell, hwz⟩
  · cases hcs
    exact ⟨none, 0, 0, fun _ => 0, rfl, ⟨0, 0, fun hh => by omega, fun i hi => by omega⟩, fun _ => ⟨rfl, rfl⟩, by omega, Nat.le_refl _, fun i hi => by omega⟩
  · cases hcs
    subst hx
    have hz' : zs.length = cap := by simpa using hz
    have hb := hw ((l + (cap - l)) * 8) (by simp [DataW.weights, Tryz.underlying25, Tryz.bytes30, lits, hz', Nat.min_eq_left hl])
    rw [reach_eq] at hb
    refine ⟨some x, l, cap, fun i => zs.getD i 0, rfl, ?_, fun hh => (by cases hh), by omega, hl, fun i hi => ?_⟩
    · by_cases h0 : 0 < l
      · have ha := spot_none (by simpa using hcell 0 (by omega))
        rw [ha] at hcell ⊢
        refine ⟨x.block, x.off, fun _ => rfl, fun i hi => ?_⟩
        have := hcell i (by omega)
        rwa [add_none] at this
      · exact ⟨0, 0, fun hh => absurd hh h0, fun i hi => by omega⟩
    · refine wf_u64 (hwz _ ?_)
      show zs.getD i 0 ∈ zs
      rw [List.getD_eq_getElem?_getD, List.getElem?_eq_getElem (by omega)]
      exact List.getElem_mem _

set_option maxRecDepth 100000 in
theorem open_wd {r : Reach} {b0 : Nat} {v : Value} {d : DataW H} {p : List MemPlace} (hv : Value.okWide Tryz.prog W r b0 27 v) (h : DataW.Trod enc Tryz.prog W 0 (fun _ => true) held 27 v d p) (hw : ∀ n ∈ d.weights Tryz.prog 27, n ≤ reachBytes) :
    ∃ sa s sc la m lc S L, v = .agg #[.slice sa s sc, .slice la m lc] ∧ Wd W sa s la m S L ∧ (sa = none → s = 0 ∧ sc = 0) ∧ (la = none → m = 0 ∧ lc = 0) ∧ s ≤ sc ∧ m ≤ lc := by
  obtain ⟨v0, v1, y0, y1, n, rfl, rfl, _, h0, h1⟩ := open_agg2 Tryz.underlying27 (by kernel_rfl) Tryz.cells27 hv h
  obtain ⟨sa, s, sc, S, rfl, hS, hsn, hs47, hsc, hsu⟩ := open_ltrs h0 (fun n hn => hw n (by simp only [DataW.weights, Tryz.underlying27]; exact List.mem_append.2 (Or.inl hn)))
  obtain ⟨la, m, lc, L, rfl, hL, hln, hl47, hlc, hlu⟩ := open_ltrs h1 (fun n hn => hw n (by simp only [DataW.weights, Tryz.underlying27]; exact List.mem_append.2 (Or.inr (List.mem_append.2 (Or.inl hn)))))
  exact ⟨sa, s, sc, la, m, lc, S, L, rfl, ⟨hS, hL, hs47, hl47, hsu, hlu⟩, hsn, hln, hsc, hlc⟩

end
end Go.Proofs.YtmdpbaobihdgkaaGreatDoor
