/- What the rows give at the first world: the package's tables. -/
import Derived.Lay
import Derived.LaidLaws
import Derived.Lib.LaidU8
import Derived.Handed
import Derived.HandedShaped
import Derived.Test.YtmdpbaobihdgkaaGreatDoorOpenFJ
import Derived.Test.YtmdpbaobihdgkaaGreatDoorASta
namespace Go.Proofs.YtmdpbaobihdgkaaGreatDoor
open Go.ChangeShapes Go.WideShapes Go.ChangeAt Go.RowKit Go.Deep

/-- As 'returnsInHanded_of_change_and', the world's shape at hand. -/
theorem returns_and_shaped {H : Type} {enc : TypeId × Value → H} {a : Assume} {C : Checked} {os : Os} {f : FuncId} {fn : Func} {s : ChangeSpec} {conds : List PathCond} {apart fresh handsOn again : Bool} {X : World → Array Value → Prop}
    (hX : ∀ (w w' : World) (args : Array Value), w.heap = w'.heap → X w args → X w' args)
    (own : ownKnob C.prog.godebug = none) (started : os.Started) (noInit : C.prog.inits.idxOf? f = none) (hfn : C.prog.funcs[f]? = some fn)
    (witness : ∃ (w : World) (tape : Tape) (i : Input), w.os = os ∧ (w.forCall tape i).Shaped C.prog ∧ i.vars = [] ∧ Input.okWide C.prog (w.forCall tape i) .any w.heap.size f i ∧
      ((s.pre enc C.prog fn conds apart (w.forCall tape i).memory i.args ∧ X (w.forCall tape i).memory i.args) ∧ sizedMet enc C.prog fn (OpenSpec.ofChange s) apart (w.forCall tape i).memory i.args) ∧ a.holds C.prog (lone (Frame.enter C.prog f i.args .normal) [] (w.forCall tape i)))
    (contract : ∀ (W : World) (base : Nat) (args : Array Value) (ds gs : List (DataW H)) (before : List MemPlace),
      (∀ (j : Nat) t v, fn.params[j]? = some t → args[j]? = some v → Value.okWide C.prog W .any base t v) →
      DataW.Whole enc C.prog fn.params.toList s.vars apart W args.toList ds gs before →
      conds.all (PathCond.test C.prog ⟨fn.params.toList, ds, s.plain.varTypes C.prog, gs⟩) = true →
      (DataW.weightsEach C.prog (fn.params.toList ++ s.plain.varTypes C.prog) (ds ++ gs)).all (· ≤ reachBytes) = true → X W args → W.ShapedOpen C.prog →
      Calls C.prog f args W fun e W' => ∃ v, e = .returned v ∧ s.post enc C.prog fn apart fresh handsOn again W args v W') :
    ReturnsInHanded a C os f .any (fun w args => (s.pre enc C.prog fn conds apart w args ∧ X w args) ∧ sizedMet enc C.prog fn (OpenSpec.ofChange s) apart w args) (s.post enc C.prog fn apart fresh handsOn again) := by
  refine returnsInHanded_of_calls own started noInit witness ?_
  intro w tape i _ hsh _ hok hpre hholds
  obtain ⟨_, _, _, fn', hfn', _, _, _, _, hval⟩ := hok
  have e : fn' = fn := Option.some.inj (hfn'.symm.trans hfn)
  subst e
  obtain ⟨⟨⟨ds, gs, before, hw, hc⟩, hx⟩, hz⟩ := hpre
  have hw' := DataW.Whole.of_heap (w' := w.forCall tape i) (by rfl) hw
  refine (contract (w.forCall tape i) w.heap.size i.args ds gs before hval hw' hc (hz.weights hw) (hX _ _ _ (by rfl) hx) hsh).mono fun e W' ⟨v, he, hp⟩ => ?_
  subst he
  exact ChangeSpec.post_blind hp

theorem Tryz.tT1 : (Tryz.prog.globals[1]?).map (·.type) = some 186 := by kernel_rfl
theorem Tryz.tB1 : (((begin Tryz.prog (fun _ _ => 0) default).world.heap[1]?).bind Obj.row?).map (·.2) = some 186 := by kernel_rfl
theorem Tryz.globs : decide (1 < Tryz.prog.globals.size) = true := by kernel_rfl

theorem tab_of {W : World} {n : String} {l : List (String × DataW Unit)} {g : Nat} {D : List (DataW Unit)} {F : Nat → Int} (hs : W.ShapedOpen Tryz.prog) (hL : laidMet Tryz.prog l W) (hn : Tryz.prog.globalNamed n = some g) (hm : (n, (DataW.agg D : DataW Unit)) ∈ l)
    (hT0 : (Tryz.prog.globals[g]?).map (·.type) = some 186) (hB0 : (((begin Tryz.prog (fun _ _ => 0) default).world.heap[g]?).bind Obj.row?).map (·.2) = some 186) (hg : g < Tryz.prog.globals.size)
    (hD : ∀ k, 1 ≤ k → k ≤ 11 → D[k]? = some (.lit (.int .i64 (F k)))) : ∀ k : Nat, 1 ≤ k → k ≤ 11 → W.cell? ⟨g, k, none⟩ = some (.int .i64 (F k)) := by
  obtain ⟨g', t, cs, fuel, p, h1, h2, h3, h4⟩ := Lib.laidMet.reads hL hm
  obtain rfl := Option.some.inj (hn.symm.trans h1)
  obtain rfl := Option.some.inj (hT0.symm.trans h2)
  obtain ⟨⟨zero, T⟩, hz, hT⟩ := Option.map_eq_some_iff.1 hB0
  have hT' : T = 186 := hT
  subst hT'
  obtain ⟨cs', hh, _, _⟩ := hs.1 g zero 186 hg hz
  have e : cs' = cs := by
    unfold World.var? at h3
    rw [hn] at h3
    simp only [Option.bind_some, hh, Option.some.injEq] at h3
    exact h3
  subst e
  intro k hk1 hk
  refine cell_of_cells hh ?_
  obtain ⟨xs, m', _, hx, _, hlen, hel⟩ := DataW.trod_array Tryz.underlying186 h4
  have h5 := hel k (by omega)
  have hxs : xs.map (·.1) = D := by
    have := congrArg Prod.fst hx
    simp only [DataW.agg.injEq] at this
    exact this.symm
  have hx1 : (xs.map (·.1))[k]? = some (.lit (.int .i64 (F k))) := by rw [hxs]; exact hD k hk1 hk
  rw [List.getElem?_map] at hx1
  obtain ⟨y, hy, hy1⟩ := Option.map_eq_some_iff.1 hx1
  rw [hy] at h5
  obtain ⟨s, hcs, hxx, _⟩ := DataW.trod_int Tryz.underlying3 h5
  have hs1 : s = F k := by
    rw [hxx] at hy1
    simpa using hy1
  rw [Tryz.cells3, Nat.mul_one] at hcs
  have h6 : (cs'.toList.drop k)[0]? = some (.int .i64 s) := by
    have := congrArg (fun z : List Value => z[0]?) hcs
    simpa [List.getElem?_take] using this
  rw [List.getElem?_drop, Nat.add_zero, Array.getElem?_toList] at h6
  rw [h6, hs1]

/-- The datum of kidCounts. -/
def kcD {H : Type} : List (DataW H) := [.lit (.int .i64 0), .lit (.int .i64 0), .lit (.int .i64 0), .lit (.int .i64 0), .lit (.int .i64 1), .lit (.int .i64 2), .lit (.int .i64 2), .lit (.int .i64 1), .lit (.int .i64 2), .lit (.int .i64 2), .lit (.int .i64 1), .lit (.int .i64 1)]
theorem kcD_at {H : Type} (k : Nat) (h1 : 1 ≤ k) (hk : k ≤ 11) : (kcD (H := H))[k]? = some (.lit (.int .i64 (ar k))) := by
  match k, h1, hk with
  | 1, _, _ => rfl
  | 2, _, _ => rfl
  | 3, _, _ => rfl
  | 4, _, _ => rfl
  | 5, _, _ => rfl
  | 6, _, _ => rfl
  | 7, _, _ => rfl
  | 8, _, _ => rfl
  | 9, _, _ => rfl
  | 10, _, _ => rfl
  | 11, _, _ => rfl
theorem kc_of {W : World} {n : String} {l : List (String × DataW Unit)} (hs : W.ShapedOpen Tryz.prog) (hL : laidMet Tryz.prog l W) (hn : Tryz.prog.globalNamed n = some 1) (hm : (n, (DataW.agg kcD : DataW Unit)) ∈ l) : kcAt W :=
  tab_of (F := fun k => ar k) hs hL hn hm Tryz.tT1 Tryz.tB1 (of_decide_eq_true Tryz.globs) kcD_at
theorem Tryz.tT0 : (Tryz.prog.globals[0]?).map (·.type) = some 173 := by kernel_rfl
theorem Tryz.tB0 : (((begin Tryz.prog (fun _ _ => 0) default).world.heap[0]?).bind Obj.row?).map (·.2) = some 173 := by kernel_rfl
theorem Tryz.globs0 : decide (0 < Tryz.prog.globals.size) = true := by kernel_rfl
theorem Tryz.cells5 : Tryz.prog.cellsOf 5 = 1 := by kernel_rfl

theorem tab8_of {W : World} {n : String} {l : List (String × DataW Unit)} {g N : Nat} {D : List (DataW Unit)} {F : Nat → Int} (hs : W.ShapedOpen Tryz.prog) (hL : laidMet Tryz.prog l W) (hn : Tryz.prog.globalNamed n = some g) (hm : (n, (DataW.agg D : DataW Unit)) ∈ l)
    (hT0 : (Tryz.prog.globals[g]?).map (·.type) = some 173) (hB0 : (((begin Tryz.prog (fun _ _ => 0) default).world.heap[g]?).bind Obj.row?).map (·.2) = some 173) (hg : g < Tryz.prog.globals.size) (hN : N ≤ 64)
    (hD : ∀ k, k < N → D[k]? = some (.lit (.int .u8 (F k)))) : ∀ k : Nat, k < N → W.cell? ⟨g, k, none⟩ = some (.int .u8 (F k)) := by
  obtain ⟨g', t, cs, fuel, p, h1, h2, h3, h4⟩ := Lib.laidMet.reads hL hm
  obtain rfl := Option.some.inj (hn.symm.trans h1)
  obtain rfl := Option.some.inj (hT0.symm.trans h2)
  obtain ⟨⟨zero, T⟩, hz, hT⟩ := Option.map_eq_some_iff.1 hB0
  have hT' : T = 173 := hT
  subst hT'
  obtain ⟨cs', hh, _, _⟩ := hs.1 g zero 173 hg hz
  have e : cs' = cs := by
    unfold World.var? at h3
    rw [hn] at h3
    simp only [Option.bind_some, hh, Option.some.injEq] at h3
    exact h3
  subst e
  intro k hk
  refine cell_of_cells hh ?_
  obtain ⟨xs, m', _, hx, _, hlen, hel⟩ := DataW.trod_array Tryz.underlying173 h4
  have h5 := hel k (by omega)
  have hxs : xs.map (·.1) = D := by
    have := congrArg Prod.fst hx
    simp only [DataW.agg.injEq] at this
    exact this.symm
  have hx1 : (xs.map (·.1))[k]? = some (.lit (.int .u8 (F k))) := by rw [hxs]; exact hD k hk
  rw [List.getElem?_map] at hx1
  obtain ⟨y, hy, hy1⟩ := Option.map_eq_some_iff.1 hx1
  rw [hy] at h5
  obtain ⟨s, hcs, hxx, _⟩ := DataW.trod_int Tryz.underlying5 h5
  have hs1 : s = F k := by
    rw [hxx] at hy1
    simpa using hy1
  rw [Tryz.cells5, Nat.mul_one] at hcs
  have h6 : (cs'.toList.drop k)[0]? = some (.int .u8 s) := by
    have := congrArg (fun z : List Value => z[0]?) hcs
    simpa [List.getElem?_take] using this
  rw [List.getElem?_drop, Nat.add_zero, Array.getElem?_toList] at h6
  rw [h6, hs1]

/-- The table as a datum. -/
def tzD {H : Type} : List (DataW H) := Lib.deBruijn64tab.map fun z : Nat => .lit (.int .u8 (z : Int))
theorem tzD_len : Lib.deBruijn64tab.length = 64 := by decide
theorem tzD_at (k : Nat) (hk : k < 64) : (tzD (H := Unit))[k]? = some (.lit (.int .u8 ((Lib.deBruijn64tab.getD k 0 : Nat) : Int))) := by
  unfold tzD
  have h : k < Lib.deBruijn64tab.length := by rw [tzD_len]; exact hk
  rw [List.getElem?_map, List.getD_eq_getElem?_getD, List.getElem?_eq_getElem h]
  rfl

theorem tb_of {W : World} {n : String} {l : List (String × DataW Unit)} (hs : W.ShapedOpen Tryz.prog) (hL : laidMet Tryz.prog l W) (hn : Tryz.prog.globalNamed n = some 0) (hm : (n, (DataW.agg tzD : DataW Unit)) ∈ l) : Tb W :=
  tab8_of (F := fun k => ((Lib.deBruijn64tab.getD k 0 : Nat) : Int)) (N := 64) hs hL hn hm Tryz.tT0 Tryz.tB0 (of_decide_eq_true Tryz.globs0) (Nat.le_refl _) tzD_at

end Go.Proofs.YtmdpbaobihdgkaaGreatDoor
