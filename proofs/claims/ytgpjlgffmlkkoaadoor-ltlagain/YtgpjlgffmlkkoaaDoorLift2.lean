/- What the rows give at the first world: the sentinels, the handle of errors.As. -/
import Derived.Test.YtgpjlgffmlkkoaaDoorLift
import Derived.Test.YtgpjlgffmlkkoaaDoorPar
import Derived.Stop.LaidErr
import Derived.LaidHandle
import Derived.LaidMore
namespace Go.Proofs.YtgpjlgffmlkkoaaDoor
open Go.ChangeShapes Go.WideShapes Go.ChangeAt Go.RowKit Go.Deep

theorem Tryd.star : "*" ++ "errors.errorString" = "*errors.errorString" := by kernel_rfl
theorem Tryd.errRow (u : TypeId) (h : Tryd.prog.typeName? 3 u = some "*errors.errorString") : u = 139 :=
  typeName_ptr_named (nm := "errors.errorString") (by rw [Tryd.star]; kernel_rfl) (by kernel_rfl) (by decide) u (by rw [Tryd.star]; exact h)

set_option maxRecDepth 100000 in
/-- One sentinel of the list: its cell, its block, its text. -/
theorem sentinel_of {W : World} {n : String} {l : List (String × DataW Unit)} {text : List UInt8} {g : Nat} (hL : laidMet Tryd.prog l W) (hg : Tryd.prog.globalNamed n = some g) (ht : (Tryd.prog.globals[g]?).map (·.type) = some 52)
    (hm : (n, (DataW.iface "*errors.errorString" (.ptr (.agg [.lit (.string text)])) : DataW Unit)) ∈ l) :
    ∃ (a : Addr) (s : ByteArray), W.cell? ⟨g, 0, none⟩ = some (.iface 139 (.pointer (some a))) ∧ W.cell? a = some (.string s) ∧ s.data.toList = text ∧ ∃ c t, W.heap[a.block]? = some (.cells c t (0, 0)) := by
  induction l with
  | nil => cases hm
  | cons x r ih =>
    rcases List.mem_cons.1 hm with rfl | hm'
    · obtain ⟨ps, ⟨g0, t0, cs0, f0, p0, q0, hg0, ht0, hv0, hd0, _, e0⟩, _, hrows⟩ := hL
      obtain rfl := Option.some.inj (hg.symm.trans hg0)
      obtain rfl := Option.some.inj (ht.symm.trans ht0)
      subst e0
      obtain ⟨l0⟩ := cs0
      have ok0 : ∀ u v, l0 = [.iface u v] → Value.okWide Tryd.prog W .any 0 u v := fun u v e => by
        subst e
        exact (hrows g 0 (by simp [MemPlace.row])).2 u v (by simpa using World.var?_cell hg0 hv0 0)
      obtain ⟨a0, s0, rfl, hc0, hs0, hz0, rfl⟩ := errorString_of_trod Tryd.underlying52 Tryd.errRow Tryd.underlying139 Tryd.underlying159 rfl rfl Tryd.underlying9 (by kernel_rfl) (by kernel_rfl) hd0 ok0
      refine ⟨a0, s0, by simpa using World.var?_cell hg0 hv0 0, hc0, hs0, ?_⟩
      exact (hrows a0.block a0.off (by simp [MemPlace.row])).1
    · exact ih (laidMet.tail hL) hm'

theorem addr_ne {W : World} {a b : Addr} {s r : ByteArray} {x y : List UInt8} (ha : W.cell? a = some (.string s)) (hb : W.cell? b = some (.string r)) (hs : s.data.toList = x) (hr : r.data.toList = y) (hxy : x ≠ y) : a ≠ b := by
  rintro rfl
  rw [ha] at hb
  injection hb with hb
  injection hb with hb
  subst hb
  exact hxy (hs.symm.trans hr)

theorem Tryd.rt : (Tryd.prog.cutTypes.find? (·.1 == "internal/reflectlite.rtype")).map (·.2) = some 120 := by kernel_rfl
theorem Tryd.oneRow : ((List.range Tryd.prog.types.size).filter fun t => Tryd.prog.rowNamed t [101, 114, 114, 111, 114]) = [52] := by kernel_rfl
theorem Tryd.et : Tryd.prog.globalNamed "errors.errorType" = some 6 := by kernel_rfl

set_option maxRecDepth 100000 in
/-- The one list of LtlReads, LtlBack, LtlAgain. -/
theorem pst_of {W : World} {na : Option Addr} {N nc : Nat} {M : Nat → ByteArray} (hsh : W.ShapedOpen Tryd.prog) (hL : laidMetH Tryd.prog Rows.ltlBackRow.laid W) (hN : Nms W na N M) (h1 : N ≤ nc) (h2 : nc ≤ 9223372036854775807) :
    ∃ a1 a2 a3 a5, Pst W na N nc M a1 a2 a3 a5 := by
  have h' : laidMet Tryd.prog [("watchway/ltl.errLarge", Rows.laid_watchway_ltl_errLarge), ("watchway/ltl.errDeep", Rows.laid_watchway_ltl_errDeep), ("watchway/ltl.errName", Rows.laid_watchway_ltl_errName), ("watchway/ltl.errSyntax", Rows.laid_watchway_ltl_errSyntax), ("watchway/ltl.kidCounts", Rows.laid_watchway_ltl_kidCounts), ("watchway/ltl.signs", Rows.laid_watchway_ltl_signs)] W ∧ handlesMet Tryd.prog [("errors.errorType", Rows.laid_errors_errorType)] W := hL
  obtain ⟨hD, hH⟩ := h'
  obtain ⟨a1, s1, e1, c1, t1, b1⟩ := sentinel_of (g := 1) hD (by kernel_rfl) (by kernel_rfl) (.head _)
  obtain ⟨a2, s2, e2, c2, t2, b2⟩ := sentinel_of (g := 2) hD (by kernel_rfl) (by kernel_rfl) (.tail _ (.head _))
  obtain ⟨a3, s3, e3, c3, t3, b3⟩ := sentinel_of (g := 3) hD (by kernel_rfl) (by kernel_rfl) (.tail _ (.tail _ (.head _)))
  obtain ⟨a5, s5, e5, c5, t5, b5⟩ := sentinel_of (g := 5) hD (by kernel_rfl) (by kernel_rfl) (.tail _ (.tail _ (.tail _ (.head _))))
  have hkc := kc_of hsh hD (by kernel_rfl) (.tail _ (.tail _ (.tail _ (.tail _ (.head _)))))
  have hsg := sg_of hsh hD (by kernel_rfl) (.tail _ (.tail _ (.tail _ (.tail _ (.tail _ (.head _))))))
  obtain ⟨name, u, ty, f1, f2, f3, f4, f5⟩ := hH _ (List.mem_singleton.2 rfl)
  have en : name = [101, 114, 114, 111, 114] := (Option.some.inj f1).symm
  subst en
  obtain rfl := Option.some.inj (Tryd.rt.symm.trans f2)
  have hm : ty ∈ (List.range Tryd.prog.types.size).filter fun t => Tryd.prog.rowNamed t [101, 114, 114, 111, 114] := List.mem_filter.2 ⟨List.mem_range.2 f3, f4⟩
  rw [Tryd.oneRow] at hm
  obtain rfl := List.mem_singleton.1 hm
  have hh : typeHandle Tryd.prog 52 = .pointer (some ⟨7, 52, none⟩) := by kernel_rfl
  rw [hh] at f5
  have g6 : W.cell? ⟨6, 0, none⟩ = some (.iface 120 (.agg #[.pointer (some ⟨7, 52, none⟩)])) := by simpa using World.var?_cell Tryd.et f5 0
  exact ⟨a1, a2, a3, a5, ⟨hkc, hsg, hN, h1, h2⟩, ⟨e1, e2, e3, e5, b1, b2, b3, b5, addr_ne c1 c2 t1 t2 (by decide), addr_ne c1 c3 t1 t3 (by decide), addr_ne c1 c5 t1 t5 (by decide), addr_ne c2 c3 t2 t3 (by decide), addr_ne c2 c5 t2 t5 (by decide), addr_ne c3 c5 t3 t5 (by decide)⟩, g6⟩

set_option maxRecDepth 100000 in
/-- The door's own heap meets the condition. -/
theorem door_met (os : Os) (args : Array Value) : laidMetH Tryd.prog Rows.ltlBackRow.laid ((World.doorLaid Tryd.prog 102 os).forCall (fun _ _ => 0) ⟨#[], args, []⟩).memory :=
  laidMetH_of_parts3 (fuel := 8) (laidMet_of_run' 8 (by kernel_rfl) (by kernel_rfl)) (by kernel_rfl) (by kernel_rfl)

end Go.Proofs.YtgpjlgffmlkkoaaDoor
