/- What came in, opened: a formula, a list of names. -/
import Derived.Test.YtinacgkiigbmjaaDoorChk2
import Derived.ProofKit
import Derived.OpenShut
import Derived.ShutString
import Derived.ChangeOld
import Derived.SizedLaws
import Derived.Deep.Slices
import Derived.Deep.Strs
import Derived.Lib.SmallJoins
namespace Go.Proofs.YtinacgkiigbmjaaDoor
open Go.ChangeShapes Go.WideShapes Go.ChangeAt Go.RowKit Go.Deep Go.Joins

theorem Tryd.own : ownKnob Tryd.prog.godebug = none := by kernel_rfl
theorem Tryd.laidOut : laidOutB Tryd.prog = true := by kernel_rfl
theorem Tryd.cells24 : Tryd.prog.cellsOf 24 = 3 := by kernel_rfl
theorem Tryd.cells3 : Tryd.prog.cellsOf 3 = 1 := by kernel_rfl
theorem Tryd.cells22 : Tryd.prog.cellsOf 22 = 1 := by kernel_rfl
theorem Tryd.cells30 : Tryd.prog.cellsOf 61 = 1 := by kernel_rfl
theorem Tryd.cells27 : Tryd.prog.cellsOf 34 = 2 := by kernel_rfl
theorem Tryd.bytes30 : Tryd.prog.bytesOf 61 = 8 := by kernel_rfl
theorem reach_eq : reachBytes = 140737488351232 := rfl

theorem weights_le {H : Type} {P : Program} {ts : List TypeId} {ds : List (DataW H)} (h : (DataW.weightsEach P ts ds).all (· ≤ reachBytes) = true) {j : Nat} {t : TypeId} {d : DataW H}
    (ht : ts[j]? = some t) (hd : ds[j]? = some d) : ∀ n ∈ d.weights P t, n ≤ reachBytes :=
  fun _ hn => of_decide_eq_true (List.all_eq_true.1 h _ (DataW.weights_mem_each ht hd _ hn))

theorem add_none (b o k : Nat) : (⟨b, o, none⟩ : Addr).add k = ⟨b, o + k, none⟩ := by
  unfold Addr.add
  split <;> simp_all

section
variable {H : Type} {enc : TypeId × Value → H} {W : World} {held : Bool}

theorem spot_none {x : Addr} {v : Value} (h : W.cell? (x.add 0) = some v) : x = ⟨x.block, x.off, none⟩ := by
  obtain ⟨b, o, s⟩ := x
  have hs : s = none := by simpa [Addr.add] using World.cell?_spot h
  subst hs
  rfl

set_option maxRecDepth 100000 in
theorem open_kds : ∀ (fuel : Nat) (v : Value) (y : DataW H × List MemPlace), DataW.trod enc Tryd.prog W 0 (fun _ => true) held fuel 22 [v] = some y →
    ∃ (a : Option Addr) (c cap : Nat) (kids : Fin c → Fml), v = .slice a c cap ∧ c ≤ 9223372036854775807 ∧ ∀ k n, Kds W ⟨k, n, c, kids⟩ a := by
  intro fuel
  induction fuel using Nat.strongRecOn with
  | ind fuel ih =>
  intro v y h
  rcases DataW.trod_slice Tryd.underlying22 h with ⟨hcs, _⟩ | ⟨a, len, cap, elems, rest, n, hfu, hcs, _, _, hl, hm, hlen, hel, _⟩
  · simp only [List.cons.injEq, and_true] at hcs
    exact ⟨none, 0, 0, fun i => i.elim0, hcs, by omega, fun k n => Kds.mk ⟨0, 0, fun hh => absurd hh (Nat.lt_irrefl 0), fun i hi => absurd hi (Nat.not_lt_zero i)⟩⟩
  · simp only [List.cons.injEq, and_true] at hcs
    have each : ∀ i, i < len → ∃ (t : Fml) (ai : Option Addr) (ci : Nat), W.cell? (a.add (i * 3)) = some (.int .i64 t.kind) ∧ W.cell? (a.add (i * 3 + 1)) = some (.int .i64 t.num) ∧ W.cell? (a.add (i * 3 + 2)) = some (.slice ai t.cnt ci) ∧ t.cnt ≤ 9223372036854775807 ∧ Kds W t ai := by
      intro i hi
      have hx := hel i hi
      rw [Tryd.cells24, List.getElem?_eq_getElem (by omega)] at hx
      obtain ⟨cs', h1, h2⟩ := Option.bind_eq_some_iff.1 hx
      obtain ⟨_, hlen', hcell⟩ := World.cells?_some h1
      obtain ⟨xs, k, hk, hxy, _, hxl, hf⟩ := DataW.trod_struct Tryd.underlying24 h2
      match xs, hxl, cs', hlen' with
      | [y0, y1, y2], _, [v0, v1, v2], _ =>
        have g0 := hf 0 _ rfl
        have g1 := hf 1 _ rfl
        have g2 := hf 2 _ rfl
        simp [Tryd.cells3, Tryd.cells22] at g0 g1 g2
        have e0 := hcell 0 (by omega)
        have e1 := hcell 1 (by omega)
        have e2 := hcell 2 (by omega)
        rw [add_add] at e0 e1 e2
        obtain ⟨z0, hz0, _, _⟩ := DataW.trod_int Tryd.underlying3 g0
        obtain ⟨z1, hz1, _, _⟩ := DataW.trod_int Tryd.underlying3 g1
        simp only [List.cons.injEq, and_true] at hz0 hz1
        obtain ⟨ai, c, ci, kids, hv, hc, hK⟩ := ih k (by omega) v2 y2 g2
        refine ⟨⟨z0, z1, c, kids⟩, ai, ci, ?_, ?_, ?_, hc, hK z0 z1⟩
        · rw [← hz0]; simpa using e0
        · rw [← hz1]; simpa using e1
        · rw [← hv]; simpa using e2
    have : Inhabited (Fml × Option Addr × Nat) := ⟨(Fml.leaf, none, 0)⟩
    have each' : ∀ i, i < len → ∃ q : Fml × Option Addr × Nat, W.cell? (a.add (i * 3)) = some (.int .i64 q.1.kind) ∧ W.cell? (a.add (i * 3 + 1)) = some (.int .i64 q.1.num) ∧ W.cell? (a.add (i * 3 + 2)) = some (.slice q.2.1 q.1.cnt q.2.2) ∧ q.1.cnt ≤ 9223372036854775807 ∧ Kds W q.1 q.2.1 := fun i hi => by
      obtain ⟨t, ai, ci, hh⟩ := each i hi
      exact ⟨(t, ai, ci), hh⟩
    obtain ⟨q, hq⟩ := choose_lt each'
    refine ⟨some a, len, cap, fun i => (q i).1, hcs, by unfold maxLen at hm; omega, fun k n => Kds.mk ?_⟩
    by_cases h0 : 0 < len
    · have ha := spot_none (by simpa using (hq 0 h0).1)
      rw [ha] at hq ⊢
      refine ⟨a.block, a.off, fun _ => rfl, fun i hi => ?_⟩
      have hi' : i < len := hi
      have ek : (Fml.mk k n len fun i => (q i).1).kid i = (q i).1 := dif_pos hi'
      rw [ek]
      obtain ⟨e1, e2, e3, e4, e5⟩ := hq i hi'
      rw [add_none] at e1 e2 e3
      exact ⟨_, _, e1, by rw [Nat.add_assoc]; exact e2, by rw [Nat.add_assoc]; exact e3, e4, e5⟩
    · exact ⟨0, 0, fun hh => absurd hh h0, fun i hi => absurd (show i < len from hi) (by omega)⟩

set_option maxRecDepth 100000 in
theorem open_fml {r : Reach} {b0 : Nat} {v : Value} {d : DataW H} {p : List MemPlace} (hv : Value.okWide Tryd.prog W r b0 24 v) (h : DataW.Trod enc Tryd.prog W 0 (fun _ => true) held 24 v d p) :
    ∃ (t : Fml) (a : Option Addr) (cap : Nat), v = .agg #[.int .i64 t.kind, .int .i64 t.num, .slice a t.cnt cap] ∧ Kds W t a ∧ t.cnt ≤ 9223372036854775807 := by
  obtain ⟨v0, v1, v2, y0, y1, y2, n, rfl, rfl, _, h0, h1, h2⟩ := open_agg3 Tryd.underlying24 (by kernel_rfl) Tryd.cells24 hv h
  obtain ⟨z0, hz0, _, _⟩ := DataW.trod_int Tryd.underlying3 h0
  obtain ⟨z1, hz1, _, _⟩ := DataW.trod_int Tryd.underlying3 h1
  simp only [List.cons.injEq, and_true] at hz0 hz1
  obtain ⟨a, c, cap, kids, rfl, hc, hK⟩ := open_kds n v2 y2 h2
  exact ⟨⟨z0, z1, c, kids⟩, a, cap, by rw [hz0, hz1], hK z0 z1, hc⟩

end
end Go.Proofs.YtinacgkiigbmjaaDoor
