/- What came in, opened: a formula, a list of names. What came in, opened: a word. What the rows give at the first world: the package's tables. -/
import Derived.ProofKit
import Derived.OpenShut
import Derived.ShutString
import Derived.ChangeOld
import Derived.SizedLaws
import Derived.Deep.Slices
import Derived.Deep.Strs
import Derived.Lib.SmallJoins
import Derived.Test.YtmdpbaobihdgkaaGreatDoorHldFJ
import Derived.Lay
import Derived.LaidLaws
import Derived.Lib.LaidU8
import Derived.Handed
import Derived.HandedShaped
namespace Go.Proofs.YtmdpbaobihdgkaaGreatDoor
open Go.ChangeShapes Go.WideShapes Go.ChangeAt Go.RowKit Go.Deep Go.Joins
theorem Tryz.own : ownKnob Tryz.prog.godebug = none := by kernel_rfl
theorem Tryz.laidOut : laidOutB Tryz.prog = true := by kernel_rfl
theorem Tryz.cells24 : Tryz.prog.cellsOf 24 = 3 := by kernel_rfl
theorem Tryz.cells3 : Tryz.prog.cellsOf 3 = 1 := by kernel_rfl
theorem Tryz.cells22 : Tryz.prog.cellsOf 22 = 1 := by kernel_rfl
theorem Tryz.cells30 : Tryz.prog.cellsOf 48 = 1 := by kernel_rfl
theorem Tryz.cells27 : Tryz.prog.cellsOf 27 = 2 := by kernel_rfl
theorem Tryz.bytes30 : Tryz.prog.bytesOf 48 = 8 := by kernel_rfl
theorem reach_eq : reachBytes = 140737488351232 := rfl
theorem weights_le {H : Type} {P : Program} {ts : List TypeId} {ds : List (DataW H)} (h : (DataW.weightsEach P ts ds).all (· ≤ reachBytes) = true) {j : Nat} {t : TypeId} {d : DataW H}
  (ht : ts[j]? = some t) (hd : ds[j]? = some d) : ∀ n ∈ d.weights P t, n ≤ reachBytes :=
 fun _ hn => of_decide_eq_true (List.all_eq_true.1 h _ (DataW.weights_mem_each ht hd _ hn))
theorem add_none (b o k : Nat) : (⟨b, o, none⟩ : Addr).add k = ⟨b, o + k, none⟩ := by
 unfold Addr.add
 split <;> simp_all
section
variable {H : Type} {enc : TypeId × Value → H} {W : World} {held : Bool}
theorem spot_none {x : Addr} {v : Value} (h : W.cell? (x.add 0) = some v) : x = ⟨x.block, x.off, none⟩ := by
 obtain ⟨b, o, s⟩ := x
 have hs : s = none := by simpa [Addr.add] using World.cell?_spot h
 subst hs
 rfl
set_option maxRecDepth 100000 in
theorem open_kds : ∀ (fuel : Nat) (v : Value) (y : DataW H × List MemPlace), DataW.trod enc Tryz.prog W 0 (fun _ => true) held fuel 22 [v] = some y →
  ∃ (a : Option Addr) (c cap : Nat) (kids : Fin c → Fml), v = .slice a c cap ∧ c ≤ 9223372036854775807 ∧ ∀ k n, Kds W ⟨k, n, c, kids⟩ a := by
 intro fuel
 induction fuel using Nat.strongRecOn with
 | ind fuel ih =>
 intro v y h
 rcases DataW.trod_slice Tryz.underlying22 h with ⟨hcs, _⟩ | ⟨a, len, cap, elems, rest, n, hfu, hcs, _, _, hl, hm, hlen, hel, _⟩
 ·simp only [List.cons.injEq, and_true] at hcs
  exact ⟨none, 0, 0, fun i => i.elim0, hcs, by omega, fun k n => Kds.mk ⟨0, 0, fun hh => absurd hh (Nat.lt_irrefl 0), fun i hi => absurd hi (Nat.not_lt_zero i)⟩⟩
 ·simp only [List.cons.injEq, and_true] at hcs
  have each : ∀ i, i < len → ∃ (t : Fml) (ai : Option Addr) (ci : Nat), W.cell? (a.add (i * 3)) = some (.int .i64 t.kind) ∧ W.cell? (a.add (i * 3 + 1)) = some (.int .i64 t.num) ∧ W.cell? (a.add (i * 3 + 2)) = some (.slice ai t.cnt ci) ∧ t.cnt ≤ 9223372036854775807 ∧ Kds W t ai := by
   intro i hi
   have hx := hel i hi
   rw [Tryz.cells24, List.getElem?_eq_getElem (by omega)] at hx
   obtain ⟨cs', h1, h2⟩ := Option.bind_eq_some_iff.1 hx
   obtain ⟨_, hlen', hcell⟩ := World.cells?_some h1
   obtain ⟨xs, k, hk, hxy, _, hxl, hf⟩ := DataW.trod_struct Tryz.underlying24 h2
   match xs, hxl, cs', hlen' with
   | [y0, y1, y2], _, [v0, v1, v2], _ =>
    have g0 := hf 0 _ rfl
    have g1 := hf 1 _ rfl
    have g2 := hf 2 _ rfl
    simp [Tryz.cells3, Tryz.cells22] at g0 g1 g2
    have e0 := hcell 0 (by omega)
    have e1 := hcell 1 (by omega)
    have e2 := hcell 2 (by omega)
    rw [add_add] at e0 e1 e2
    obtain ⟨z0, hz0, _, _⟩ := DataW.trod_int Tryz.underlying3 g0
    obtain ⟨z1, hz1, _, _⟩ := DataW.trod_int Tryz.underlying3 g1
    simp only [List.cons.injEq, and_true] at hz0 hz1
    obtain ⟨ai, c, ci, kids, hv, hc, hK⟩ := ih k (by omega) v2 y2 g2
    refine ⟨⟨z0, z1, c, kids⟩, ai, ci, ?_, ?_, ?_, hc, hK z0 z1⟩
    ·rw [← hz0]; simpa using e0
    ·rw [← hz1]; simpa using e1
    ·rw [← hv]; simpa using e2
  have : Inhabited (Fml × Option Addr × Nat) := ⟨(Fml.leaf, none, 0)⟩
  have each' : ∀ i, i < len → ∃ q : Fml × Option Addr × Nat, W.cell? (a.add (i * 3)) = some (.int .i64 q.1.kind) ∧ W.cell? (a.add (i * 3 + 1)) = some (.int .i64 q.1.num) ∧ W.cell? (a.add (i * 3 + 2)) = some (.slice q.2.1 q.1.cnt q.2.2) ∧ q.1.cnt ≤ 9223372036854775807 ∧ Kds W q.1 q.2.1 := fun i hi => by
   obtain ⟨t, ai, ci, hh⟩ := each i hi
   exact ⟨(t, ai, ci), hh⟩
  obtain ⟨q, hq⟩ := choose_lt each'
  refine ⟨some a, len, cap, fun i => (q i).1, hcs, by unfold maxLen at hm; omega, fun k n => Kds.mk ?_⟩
  by_cases h0 : 0 < len
  ·have ha := spot_none (by simpa using (hq 0 h0).1)
   rw [ha] at hq ⊢
   refine ⟨a.block, a.off, fun _ => rfl, fun i hi => ?_⟩
   have hi' : i < len := hi
   have ek : (Fml.mk k n len fun i => (q i).1).kid i = (q i).1 := dif_pos hi'
   rw [ek]
   obtain ⟨e1, e2, e3, e4, e5⟩ := hq i hi'
   rw [add_none] at e1 e2 e3
   exact ⟨_, _, e1, by rw [Nat.add_assoc]; exact e2, by rw [Nat.add_assoc]; exact e3, e4, e5⟩
  ·exact ⟨0, 0, fun hh => absurd hh h0, fun i hi => absurd (show i < len from hi) (by omega)⟩
set_option maxRecDepth 100000 in
theorem open_fml {r : Reach} {b0 : Nat} {v : Value} {d : DataW H} {p : List MemPlace} (hv : Value.okWide Tryz.prog W r b0 24 v) (h : DataW.Trod enc Tryz.prog W 0 (fun _ => true) held 24 v d p) :
  ∃ (t : Fml) (a : Option Addr) (cap : Nat), v = .agg #[.int .i64 t.kind, .int .i64 t.num, .slice a t.cnt cap] ∧ Kds W t a ∧ t.cnt ≤ 9223372036854775807 := by
 obtain ⟨v0, v1, v2, y0, y1, y2, n, rfl, rfl, _, h0, h1, h2⟩ := open_agg3 Tryz.underlying24 (by kernel_rfl) Tryz.cells24 hv h
 obtain ⟨z0, hz0, _, _⟩ := DataW.trod_int Tryz.underlying3 h0
 obtain ⟨z1, hz1, _, _⟩ := DataW.trod_int Tryz.underlying3 h1
 simp only [List.cons.injEq, and_true] at hz0 hz1
 obtain ⟨a, c, cap, kids, rfl, hc, hK⟩ := open_kds n v2 y2 h2
 exact ⟨⟨z0, z1, c, kids⟩, a, cap, by rw [hz0, hz1], hK z0 z1, hc⟩
end
end Go.Proofs.YtmdpbaobihdgkaaGreatDoor
namespace Go.Proofs.YtmdpbaobihdgkaaGreatDoor
open Go.ChangeShapes Go.WideShapes Go.ChangeAt Go.RowKit Go.Deep Go.Joins
section
variable {H : Type} {enc : TypeId × Value → H} {W : World} {held : Bool}
theorem wf_u64 {z : Int} (h : (Lit.int .u64 z).wf = true) : 0 ≤ z ∧ z < 18446744073709551616 := by
 have e1 : IntKind.u64.min = 0 := by decide
 have e2 : IntKind.u64.max = 18446744073709551615 := by decide
 simp [Lit.wf] at h
 omega
theorem open_ltrs {fuel : Nat} {v : Value} {y : DataW H × List MemPlace} (h : DataW.trod enc Tryz.prog W 0 (fun _ => true) held fuel 25 [v] = some y) (hw : ∀ n ∈ y.1.weights Tryz.prog 25, n ≤ reachBytes) :
  ∃ a n c Z, v = .slice a n c ∧ RowU W a n Z ∧ (a = none → n = 0 ∧ c = 0) ∧ n ≤ 140737488355328 ∧ n ≤ c ∧ ∀ i, i < n → 0 ≤ Z i ∧ Z i < 18446744073709551616 := by
 rcases open_ints Tryz.underlying25 Tryz.underlying48 Tryz.cells30 h with ⟨hcs, hx⟩ | ⟨x, l, cap, zs, hcs, _, hl, hm, hz, hx, hcell, hwz⟩
 ·cases hcs
  exact ⟨none, 0, 0, fun _ => 0, rfl, ⟨0, 0, fun hh => by omega, fun i hi => by omega⟩, fun _ => ⟨rfl, rfl⟩, by omega, Nat.le_refl _, fun i hi => by omega⟩
 ·cases hcs
  subst hx
  have hz' : zs.length = cap := by simpa using hz
  have hb := hw ((l + (cap - l)) * 8) (by simp [DataW.weights, Tryz.underlying25, Tryz.bytes30, lits, hz', Nat.min_eq_left hl])
  rw [reach_eq] at hb
  refine ⟨some x, l, cap, fun i => zs.getD i 0, rfl, ?_, fun hh => (by cases hh), by omega, hl, fun i hi => ?_⟩
  ·by_cases h0 : 0 < l
   ·have ha := spot_none (by simpa using hcell 0 (by omega))
    rw [ha] at hcell ⊢
    refine ⟨x.block, x.off, fun _ => rfl, fun i hi => ?_⟩
    have := hcell i (by omega)
    rwa [add_none] at this
   ·exact ⟨0, 0, fun hh => absurd hh h0, fun i hi => by omega⟩
  ·refine wf_u64 (hwz _ ?_)
   show zs.getD i 0 ∈ zs
   rw [List.getD_eq_getElem?_getD, List.getElem?_eq_getElem (by omega)]
   exact List.getElem_mem _
set_option maxRecDepth 100000 in
theorem open_wd {r : Reach} {b0 : Nat} {v : Value} {d : DataW H} {p : List MemPlace} (hv : Value.okWide Tryz.prog W r b0 27 v) (h : DataW.Trod enc Tryz.prog W 0 (fun _ => true) held 27 v d p) (hw : ∀ n ∈ d.weights Tryz.prog 27, n ≤ reachBytes) :
  ∃ sa s sc la m lc S L, v = .agg #[.slice sa s sc, .slice la m lc] ∧ Wd W sa s la m S L ∧ (sa = none → s = 0 ∧ sc = 0) ∧ (la = none → m = 0 ∧ lc = 0) ∧ s ≤ sc ∧ m ≤ lc := by
 obtain ⟨v0, v1, y0, y1, n, rfl, rfl, _, h0, h1⟩ := open_agg2 Tryz.underlying27 (by kernel_rfl) Tryz.cells27 hv h
 obtain ⟨sa, s, sc, S, rfl, hS, hsn, hs47, hsc, hsu⟩ := open_ltrs h0 (fun n hn => hw n (by simp only [DataW.weights, Tryz.underlying27]; exact List.mem_append.2 (Or.inl hn)))
 obtain ⟨la, m, lc, L, rfl, hL, hln, hl47, hlc, hlu⟩ := open_ltrs h1 (fun n hn => hw n (by simp only [DataW.weights, Tryz.underlying27]; exact List.mem_append.2 (Or.inr (List.mem_append.2 (Or.inl hn)))))
 exact ⟨sa, s, sc, la, m, lc, S, L, rfl, ⟨hS, hL, hs47, hl47, hsu, hlu⟩, hsn, hln, hsc, hlc⟩
end
end Go.Proofs.YtmdpbaobihdgkaaGreatDoor
namespace Go.Proofs.YtmdpbaobihdgkaaGreatDoor
open Go.ChangeShapes Go.WideShapes Go.ChangeAt Go.RowKit Go.Deep
theorem returns_and_shaped {H : Type} {enc : TypeId × Value → H} {a : Assume} {C : Checked} {os : Os} {f : FuncId} {fn : Func} {s : ChangeSpec} {conds : List PathCond} {apart fresh handsOn again : Bool} {X : World → Array Value → Prop}
  (hX : ∀ (w w' : World) (args : Array Value), w.heap = w'.heap → X w args → X w' args)
  (own : ownKnob C.prog.godebug = none) (started : os.Started) (noInit : C.prog.inits.idxOf? f = none) (hfn : C.prog.funcs[f]? = some fn)
  (witness : ∃ (w : World) (tape : Tape) (i : Input), w.os = os ∧ (w.forCall tape i).Shaped C.prog ∧ i.vars = [] ∧ Input.okWide C.prog (w.forCall tape i) .any w.heap.size f i ∧
   ((s.pre enc C.prog fn conds apart (w.forCall tape i).memory i.args ∧ X (w.forCall tape i).memory i.args) ∧ sizedMet enc C.prog fn (OpenSpec.ofChange s) apart (w.forCall tape i).memory i.args) ∧ a.holds C.prog (lone (Frame.enter C.prog f i.args .normal) [] (w.forCall tape i)))
  (contract : ∀ (W : World) (base : Nat) (args : Array Value) (ds gs : List (DataW H)) (before : List MemPlace),
   (∀ (j : Nat) t v, fn.params[j]? = some t → args[j]? = some v → Value.okWide C.prog W .any base t v) →
   DataW.Whole enc C.prog fn.params.toList s.vars apart W args.toList ds gs before →
   conds.all (PathCond.test C.prog ⟨fn.params.toList, ds, s.plain.varTypes C.prog, gs⟩) = true →
   (DataW.weightsEach C.prog (fn.params.toList ++ s.plain.varTypes C.prog) (ds ++ gs)).all (· ≤ reachBytes) = true → X W args → W.ShapedOpen C.prog →
   Calls C.prog f args W fun e W' => ∃ v, e = .returned v ∧ s.post enc C.prog fn apart fresh handsOn again W args v W') :
  ReturnsInHanded a C os f .any (fun w args => (s.pre enc C.prog fn conds apart w args ∧ X w args) ∧ sizedMet enc C.prog fn (OpenSpec.ofChange s) apart w args) (s.post enc C.prog fn apart fresh handsOn again) := by
 refine returnsInHanded_of_calls own started noInit witness ?_
 intro w tape i _ hsh _ hok hpre hholds
 obtain ⟨_, _, _, fn', hfn', _, _, _, _, hval⟩ := hok
 have e : fn' = fn := Option.some.inj (hfn'.symm.trans hfn)
 subst e
 obtain ⟨⟨⟨ds, gs, before, hw, hc⟩, hx⟩, hz⟩ := hpre
 have hw' := DataW.Whole.of_heap (w' := w.forCall tape i) (by rfl) hw
 refine (contract (w.forCall tape i) w.heap.size i.args ds gs before hval hw' hc (hz.weights hw) (hX _ _ _ (by rfl) hx) hsh).mono fun e W' ⟨v, he, hp⟩ => ?_
 subst he
 exact ChangeSpec.post_blind hp
theorem Tryz.tT1 : (Tryz.prog.globals[1]?).map (·.type) = some 186 := by kernel_rfl
theorem Tryz.tB1 : (((begin Tryz.prog (fun _ _ => 0) default).world.heap[1]?).bind Obj.row?).map (·.2) = some 186 := by kernel_rfl
theorem Tryz.globs : decide (1 < Tryz.prog.globals.size) = true := by kernel_rfl
theorem tab_of {W : World} {n : String} {l : List (String × DataW Unit)} {g : Nat} {D : List (DataW Unit)} {F : Nat → Int} (hs : W.ShapedOpen Tryz.prog) (hL : laidMet Tryz.prog l W) (hn : Tryz.prog.globalNamed n = some g) (hm : (n, (DataW.agg D : DataW Unit)) ∈ l)
  (hT0 : (Tryz.prog.globals[g]?).map (·.type) = some 186) (hB0 : (((begin Tryz.prog (fun _ _ => 0) default).world.heap[g]?).bind Obj.row?).map (·.2) = some 186) (hg : g < Tryz.prog.globals.size)
  (hD : ∀ k, 1 ≤ k → k ≤ 11 → D[k]? = some (.lit (.int .i64 (F k)))) : ∀ k : Nat, 1 ≤ k → k ≤ 11 → W.cell? ⟨g, k, none⟩ = some (.int .i64 (F k)) := by
 obtain ⟨g', t, cs, fuel, p, h1, h2, h3, h4⟩ := Lib.laidMet.reads hL hm
 obtain rfl := Option.some.inj (hn.symm.trans h1)
 obtain rfl := Option.some.inj (hT0.symm.trans h2)
 obtain ⟨⟨zero, T⟩, hz, hT⟩ := Option.map_eq_some_iff.1 hB0
 have hT' : T = 186 := hT
 subst hT'
 obtain ⟨cs', hh, _, _⟩ := hs.1 g zero 186 hg hz
 have e : cs' = cs := by
  unfold World.var? at h3
  rw [hn] at h3
  simp only [Option.bind_some, hh, Option.some.injEq] at h3
  exact h3
 subst e
 intro k hk1 hk
 refine cell_of_cells hh ?_
 obtain ⟨xs, m', _, hx, _, hlen, hel⟩ := DataW.trod_array Tryz.underlying186 h4
 have h5 := hel k (by omega)
 have hxs : xs.map (·.1) = D := by
  have := congrArg Prod.fst hx
  simp only [DataW.agg.injEq] at this
  exact this.symm
 have hx1 : (xs.map (·.1))[k]? = some (.lit (.int .i64 (F k))) := by rw [hxs]; exact hD k hk1 hk
 rw [List.getElem?_map] at hx1
 obtain ⟨y, hy, hy1⟩ := Option.map_eq_some_iff.1 hx1
 rw [hy] at h5
 obtain ⟨s, hcs, hxx, _⟩ := DataW.trod_int Tryz.underlying3 h5
 have hs1 : s = F k := by
  rw [hxx] at hy1
  simpa using hy1
 rw [Tryz.cells3, Nat.mul_one] at hcs
 have h6 : (cs'.toList.drop k)[0]? = some (.int .i64 s) := by
  have := congrArg (fun z : List Value => z[0]?) hcs
  simpa [List.getElem?_take] using this
 rw [List.getElem?_drop, Nat.add_zero, Array.getElem?_toList] at h6
 rw [h6, hs1]
def kcD {H : Type} : List (DataW H) := [.lit (.int .i64 0), .lit (.int .i64 0), .lit (.int .i64 0), .lit (.int .i64 0), .lit (.int .i64 1), .lit (.int .i64 2), .lit (.int .i64 2), .lit (.int .i64 1), .lit (.int .i64 2), .lit (.int .i64 2), .lit (.int .i64 1), .lit (.int .i64 1)]
theorem kcD_at {H : Type} (k : Nat) (h1 : 1 ≤ k) (hk : k ≤ 11) : (kcD (H := H))[k]? = some (.lit (.int .i64 (ar k))) := by
 match k, h1, hk with
 | 1, _, _ => rfl
 | 2, _, _ => rfl
 | 3, _, _ => rfl
 | 4, _, _ => rfl
 | 5, _, _ => rfl
 | 6, _, _ => rfl
 | 7, _, _ => rfl
 | 8, _, _ => rfl
 | 9, _, _ => rfl
 | 10, _, _ => rfl
 | 11, _, _ => rfl
theorem kc_of {W : World} {n : String} {l : List (String × DataW Unit)} (hs : W.ShapedOpen Tryz.prog) (hL : laidMet Tryz.prog l W) (hn : Tryz.prog.globalNamed n = some 1) (hm : (n, (DataW.agg kcD : DataW Unit)) ∈ l) : kcAt W :=
 tab_of (F := fun k => ar k) hs hL hn hm Tryz.tT1 Tryz.tB1 (of_decide_eq_true Tryz.globs) kcD_at
theorem Tryz.tT0 : (Tryz.prog.globals[0]?).map (·.type) = some 173 := by kernel_rfl
theorem Tryz.tB0 : (((begin Tryz.prog (fun _ _ => 0) default).world.heap[0]?).bind Obj.row?).map (·.2) = some 173 := by kernel_rfl
theorem Tryz.globs0 : decide (0 < Tryz.prog.globals.size) = true := by kernel_rfl
theorem Tryz.cells5 : Tryz.prog.cellsOf 5 = 1 := by kernel_rfl
theorem tab8_of {W : World} {n : String} {l : List (String × DataW Unit)} {g N : Nat} {D : List (DataW Unit)} {F : Nat → Int} (hs : W.ShapedOpen Tryz.prog) (hL : laidMet Tryz.prog l W) (hn : Tryz.prog.globalNamed n = some g) (hm : (n, (DataW.agg D : DataW Unit)) ∈ l)
  (hT0 : (Tryz.prog.globals[g]?).map (·.type) = some 173) (hB0 : (((begin Tryz.prog (fun _ _ => 0) default).world.heap[g]?).bind Obj.row?).map (·.2) = some 173) (hg : g < Tryz.prog.globals.size) (hN : N ≤ 64)
  (hD : ∀ k, k < N → D[k]? = some (.lit (.int .u8 (F k)))) : ∀ k : Nat, k < N → W.cell? ⟨g, k, none⟩ = some (.int .u8 (F k)) := by
 obtain ⟨g', t, cs, fuel, p, h1, h2, h3, h4⟩ := Lib.laidMet.reads hL hm
 obtain rfl := Option.some.inj (hn.symm.trans h1)
 obtain rfl := Option.some.inj (hT0.symm.trans h2)
 obtain ⟨⟨zero, T⟩, hz, hT⟩ := Option.map_eq_some_iff.1 hB0
 have hT' : T = 173 := hT
 subst hT'
 obtain ⟨cs', hh, _, _⟩ := hs.1 g zero 173 hg hz
 have e : cs' = cs := by
  unfold World.var? at h3
  rw [hn] at h3
  simp only [Option.bind_some, hh, Option.some.injEq] at h3
  exact h3
 subst e
 intro k hk
 refine cell_of_cells hh ?_
 obtain ⟨xs, m', _, hx, _, hlen, hel⟩ := DataW.trod_array Tryz.underlying173 h4
 have h5 := hel k (by omega)
 have hxs : xs.map (·.1) = D := by
  have := congrArg Prod.fst hx
  simp only [DataW.agg.injEq] at this
  exact this.symm
 have hx1 : (xs.map (·.1))[k]? = some (.lit (.int .u8 (F k))) := by rw [hxs]; exact hD k hk
 rw [List.getElem?_map] at hx1
 obtain ⟨y, hy, hy1⟩ := Option.map_eq_some_iff.1 hx1
 rw [hy] at h5
 obtain ⟨s, hcs, hxx, _⟩ := DataW.trod_int Tryz.underlying5 h5
 have hs1 : s = F k := by
  rw [hxx] at hy1
  simpa using hy1
 rw [Tryz.cells5, Nat.mul_one] at hcs
 have h6 : (cs'.toList.drop k)[0]? = some (.int .u8 s) := by
  have := congrArg (fun z : List Value => z[0]?) hcs
  simpa [List.getElem?_take] using this
 rw [List.getElem?_drop, Nat.add_zero, Array.getElem?_toList] at h6
 rw [h6, hs1]
def tzD {H : Type} : List (DataW H) := Lib.deBruijn64tab.map fun z : Nat => .lit (.int .u8 (z : Int))
theorem tzD_len : Lib.deBruijn64tab.length = 64 := by decide
theorem tzD_at (k : Nat) (hk : k < 64) : (tzD (H := Unit))[k]? = some (.lit (.int .u8 ((Lib.deBruijn64tab.getD k 0 : Nat) : Int))) := by
 unfold tzD
 have h : k < Lib.deBruijn64tab.length := by rw [tzD_len]; exact hk
 rw [List.getElem?_map, List.getD_eq_getElem?_getD, List.getElem?_eq_getElem h]
 rfl
theorem tb_of {W : World} {n : String} {l : List (String × DataW Unit)} (hs : W.ShapedOpen Tryz.prog) (hL : laidMet Tryz.prog l W) (hn : Tryz.prog.globalNamed n = some 0) (hm : (n, (DataW.agg tzD : DataW Unit)) ∈ l) : Tb W :=
 tab8_of (F := fun k => ((Lib.deBruijn64tab.getD k 0 : Nat) : Int)) (N := 64) hs hL hn hm Tryz.tT0 Tryz.tB0 (of_decide_eq_true Tryz.globs0) jq0 tzD_at
end Go.Proofs.YtmdpbaobihdgkaaGreatDoor
