/- errors.As of a fault: what reads and writes memory. -/
import Derived.Test.YtgpjlgffmlkkoaaDoorErrAs
import Derived.Laws.Tables
namespace Go.Proofs.YtgpjlgffmlkkoaaDoor
open Go.RowKit Go.Extern.Stop Go.Stop Go.Extern

theorem Tryd.parts79 (a : Addr) (w : World) : (ReflectliteValue.parts (.agg #[.pointer (some ⟨7, 79, none⟩), .pointer (some a), .int .u64 150])).run Tryd.prog w = .ok (some (79, a, 150)) w := by kernel_rfl
theorem Tryd.parts72a (a : Addr) (w : World) : (ReflectliteValue.parts (.agg #[.pointer (some ⟨7, 72, none⟩), .pointer (some a), .int .u64 409])).run Tryd.prog w = .ok (some (72, a, 409)) w := by kernel_rfl
theorem Tryd.parts72 (a : Addr) (w : World) : (ReflectliteValue.parts (.agg #[.pointer (some ⟨7, 72, none⟩), .pointer (some a), .int .u64 153])).run Tryd.prog w = .ok (some (72, a, 153)) w := by kernel_rfl
theorem Tryd.elemOf79 (w : World) : (Rtype.elem? 79).run Tryd.prog w = .ok (some 72) w := by kernel_rfl
theorem Tryd.mk72 (p : Addr) (w : World) : (ReflectliteValue.mk 72 p ReflectliteValue.flagAddr).run Tryd.prog w = .ok (.agg #[.pointer (some ⟨7, 72, none⟩), .pointer (some p), .int .u64 409]) w := by kernel_rfl
theorem Tryd.direct72 (w : World) : (Rtype.directlyAssignable 72 72).run Tryd.prog w = .ok true w := by kernel_rfl

theorem Tryd.isNil79 (a p : Addr) (W : World) (ha : W.cell? a = some (.pointer (some p))) :
    (callFunc 54 #[.agg #[.pointer (some ⟨7, 79, none⟩), .pointer (some a), .int .u64 150]]).run Tryd.prog W = .ok (Next.value (.bool false)) W := by
  rw [@run_callFunc_extern Tryd.prog 54 _ (ReflectliteValue.method (ReflectliteValue.valueError "reflectlite.Value.IsNil" 0) ReflectliteValue.isNil) Tryd.func54 (by kernel_rfl) (by kernel_rfl) (by kernel_rfl) (by kernel_rfl)]
  have hm : ReflectliteValue.method (ReflectliteValue.valueError "reflectlite.Value.IsNil" 0) ReflectliteValue.isNil #[.agg #[.pointer (some ⟨7, 79, none⟩), .pointer (some a), .int .u64 150]] = (ReflectliteValue.parts (.agg #[.pointer (some ⟨7, 79, none⟩), .pointer (some a), .int .u64 150]) >>= _) := rfl
  rw [hm]
  simp only [Sem.run_bind, Tryd.parts79, Result.andThen]
  simp [ReflectliteValue.isNil, loadVar, isAgg, underlying, Tryd.underlying79, ha, Result.andThen]

theorem Tryd.elemV79 (a p : Addr) (W : World) (ha : W.cell? a = some (.pointer (some p))) :
    (callFunc 66 #[.agg #[.pointer (some ⟨7, 79, none⟩), .pointer (some a), .int .u64 150]]).run Tryd.prog W = .ok (Next.value (.agg #[.pointer (some ⟨7, 72, none⟩), .pointer (some p), .int .u64 409])) W := by
  rw [@run_callFunc_extern Tryd.prog 66 _ (ReflectliteValue.method (ReflectliteValue.valueError "reflectlite.Value.Elem" 0) ReflectliteValue.elem) Tryd.func66 (by kernel_rfl) (by kernel_rfl) (by kernel_rfl) (by kernel_rfl)]
  have hm : ReflectliteValue.method (ReflectliteValue.valueError "reflectlite.Value.Elem" 0) ReflectliteValue.elem #[.agg #[.pointer (some ⟨7, 79, none⟩), .pointer (some a), .int .u64 150]] = (ReflectliteValue.parts (.agg #[.pointer (some ⟨7, 79, none⟩), .pointer (some a), .int .u64 150]) >>= _) := rfl
  rw [hm]
  simp only [Sem.run_bind, Tryd.parts79, Result.andThen]
  simp [ReflectliteValue.elem, loadVar, isAgg, underlying, Tryd.underlying79, ha, Result.andThen, Tryd.elemOf79, Tryd.mk72]

theorem Tryd.setV72 (g h : Nat) (u v u0 v0 : Value) (W : World) (hb : W.heap[h]? = some (.cells #[u, v] 72 (0, 0))) (hg : W.heap[g]? = some (.cells #[u0, v0] 72 (0, 0))) (hu : u.oneCell' = true) (hv : v.oneCell' = true) :
    (callFunc 67 #[.agg #[.pointer (some ⟨7, 72, none⟩), .pointer (some ⟨g, 0, none⟩), .int .u64 409], .agg #[.pointer (some ⟨7, 72, none⟩), .pointer (some ⟨h, 0, none⟩), .int .u64 153]]).run Tryd.prog W
      = .ok (Next.value (.tuple #[])) (W.setRow g #[u, v]) := by
  rw [@run_callFunc_extern Tryd.prog 67 _ ReflectliteValue.set Tryd.func67 (by kernel_rfl) (by kernel_rfl) (by kernel_rfl) (by kernel_rfl)]
  have hl := run_loadVar_row (P := Tryd.prog) W h 72 72 #[u, v] (0, 0) _ hb Tryd.underlying72 rfl (by kernel_rfl)
  have hm : ReflectliteValue.set #[.agg #[.pointer (some ⟨7, 72, none⟩), .pointer (some ⟨g, 0, none⟩), .int .u64 409], .agg #[.pointer (some ⟨7, 72, none⟩), .pointer (some ⟨h, 0, none⟩), .int .u64 153]] = (ReflectliteValue.parts (.agg #[.pointer (some ⟨7, 72, none⟩), .pointer (some ⟨g, 0, none⟩), .int .u64 409]) >>= fun p => ReflectliteValue.parts (.agg #[.pointer (some ⟨7, 72, none⟩), .pointer (some ⟨h, 0, none⟩), .int .u64 153]) >>= _) := rfl
  rw [hm]
  simp only [Sem.run_bind, Tryd.parts72a, Tryd.parts72, Result.andThen]
  simp [ReflectliteValue.flagAddr, hl, Result.andThen, Tryd.direct72]
  rw [run_storeVar_row (P := Tryd.prog) W g 72 72 #[u0, v0] #[u, v] hg (by kernel_rfl) (by simp) (by simp [hu, hv])]

set_option maxHeartbeats 4000000 in
set_option maxRecDepth 100000 in
theorem as_hit (g : Nat) (u v u0 v0 : Value) (w : World) (hg6 : w.cell? ⟨6, 0, none⟩ = some (.iface 120 (.agg #[.pointer (some ⟨7, 52, none⟩)]))) (hg : w.heap[g]? = some (.cells #[u0, v0] 72 (0, 0))) (hu : u.oneCell' = true) (hv : v.oneCell' = true) :
    Calls Tryd.prog 37 #[.iface 72 (.agg #[u, v]), .iface 79 (.pointer (some ⟨g, 0, none⟩))] w fun e w' => e = .returned (.bool true) ∧ ∃ w1, Below w.heap.size w w1 ∧ w' = w1.setRow g #[u, v] := by
  have a1 := Tryd.asValueOf
  have a2 := Tryd.asType
  have a3 := Tryd.asMethKind
  have a4 := Tryd.asKind79
  have a5 := Tryd.asKind72
  have a6 := Tryd.asMethElem
  have a7 := Tryd.asMethImpl
  have a8 := Tryd.asMethAssign
  have a9 := Tryd.asElemT
  have b1 := Tryd.asImpl
  have b2 := Tryd.asTypeOf
  have b3 := Tryd.asAssign
  have b4 := Tryd.asValueOf72
  have h6 : 6 < w.heap.size := World.block_lt_of_cell? _ _ hg6
  have hgl : g < w.heap.size := (Array.getElem?_eq_some_iff.1 hg).1
  have n8 := Tryd.isNil79 ⟨w.heap.size, 0, none⟩ ⟨g, 0, none⟩ ((w.alloc (.cells #[.pointer (some ⟨g, 0, none⟩)] 79)).alloc (.cells #[.pointer (some ⟨7, 79, none⟩), .pointer (some ⟨w.heap.size, 0, none⟩), .int .u64 150] 99)) (by simp)
  have e1 : (w.alloc (.cells #[.pointer (some ⟨g, 0, none⟩)] 79)).heap.size = w.heap.size + 1 := by simp
  have e2 : ((w.alloc (.cells #[.pointer (some ⟨g, 0, none⟩)] 79)).alloc (.cells #[.pointer (some ⟨7, 79, none⟩), .pointer (some ⟨w.heap.size, 0, none⟩), .int .u64 150] 99)).heap.size = w.heap.size + 1 + 1 := by simp
  have e3 : (((w.alloc (.cells #[.pointer (some ⟨g, 0, none⟩)] 79)).alloc (.cells #[.pointer (some ⟨7, 79, none⟩), .pointer (some ⟨w.heap.size, 0, none⟩), .int .u64 150] 99)).alloc (.cells #[.pointer (some ⟨7, 79, none⟩), .pointer (some ⟨w.heap.size, 0, none⟩), .int .u64 150] 99)).heap.size = w.heap.size + 1 + 1 + 1 := by simp
  have hA : (((w.alloc (.cells #[.pointer (some ⟨g, 0, none⟩)] 79)).alloc (.cells #[.pointer (some ⟨7, 79, none⟩), .pointer (some ⟨w.heap.size, 0, none⟩), .int .u64 150] 99)).alloc (.cells #[.pointer (some ⟨7, 79, none⟩), .pointer (some ⟨w.heap.size, 0, none⟩), .int .u64 150] 99)).cell? ⟨w.heap.size, 0, none⟩ = some (.pointer (some ⟨g, 0, none⟩)) := by
    rw [World.cell?_of_block (w := (w.alloc (.cells #[.pointer (some ⟨g, 0, none⟩)] 79))) (by rw [Go.Deep.blk_alloc_lt _ _ _ (by rw [e2]; show w.heap.size < _; omega), Go.Deep.blk_alloc_lt _ _ _ (by rw [e1]; show w.heap.size < _; omega)])]
    exact cell_of_alloc rfl
  have hG4 : ((((w.alloc (.cells #[.pointer (some ⟨g, 0, none⟩)] 79)).alloc (.cells #[.pointer (some ⟨7, 79, none⟩), .pointer (some ⟨w.heap.size, 0, none⟩), .int .u64 150] 99)).alloc (.cells #[.pointer (some ⟨7, 79, none⟩), .pointer (some ⟨w.heap.size, 0, none⟩), .int .u64 150] 99)).alloc (.cells #[u, v] 72)).heap[g]? = some (.cells #[u0, v0] 72 (0, 0)) := by
    rw [Go.Deep.blk_alloc_lt _ _ _ (by rw [e3]; omega), Go.Deep.blk_alloc_lt _ _ _ (by rw [e2]; omega), Go.Deep.blk_alloc_lt _ _ _ (by rw [e1]; omega), Go.Deep.blk_alloc_lt _ _ _ hgl]
    exact hg
  have hH4 : ((((w.alloc (.cells #[.pointer (some ⟨g, 0, none⟩)] 79)).alloc (.cells #[.pointer (some ⟨7, 79, none⟩), .pointer (some ⟨w.heap.size, 0, none⟩), .int .u64 150] 99)).alloc (.cells #[.pointer (some ⟨7, 79, none⟩), .pointer (some ⟨w.heap.size, 0, none⟩), .int .u64 150] 99)).alloc (.cells #[u, v] 72)).heap[w.heap.size + 1 + 1 + 1]? = some (.cells #[u, v] 72 (0, 0)) := by
    rw [← e3]
    exact Go.Deep.blk_alloc_new _ _
  have el := Tryd.elemV79 ⟨w.heap.size, 0, none⟩ ⟨g, 0, none⟩ (((w.alloc (.cells #[.pointer (some ⟨g, 0, none⟩)] 79)).alloc (.cells #[.pointer (some ⟨7, 79, none⟩), .pointer (some ⟨w.heap.size, 0, none⟩), .int .u64 150] 99)).alloc (.cells #[.pointer (some ⟨7, 79, none⟩), .pointer (some ⟨w.heap.size, 0, none⟩), .int .u64 150] 99)) hA
  have st := Tryd.setV72 g (w.heap.size + 1 + 1 + 1) u v u0 v0 ((((w.alloc (.cells #[.pointer (some ⟨g, 0, none⟩)] 79)).alloc (.cells #[.pointer (some ⟨7, 79, none⟩), .pointer (some ⟨w.heap.size, 0, none⟩), .int .u64 150] 99)).alloc (.cells #[.pointer (some ⟨7, 79, none⟩), .pointer (some ⟨w.heap.size, 0, none⟩), .int .u64 150] 99)).alloc (.cells #[u, v] 72)) hH4 hG4 hu hv
  have HB : Hid (Below w.heap.size w ((((w.alloc (.cells #[.pointer (some ⟨g, 0, none⟩)] 79)).alloc (.cells #[.pointer (some ⟨7, 79, none⟩), .pointer (some ⟨w.heap.size, 0, none⟩), .int .u64 150] 99)).alloc (.cells #[.pointer (some ⟨7, 79, none⟩), .pointer (some ⟨w.heap.size, 0, none⟩), .int .u64 150] 99)).alloc (.cells #[u, v] 72))) := ((((Below.refl _ _).alloc (Nat.le_refl _) _).alloc (by rw [e1]; omega) _).alloc (by rw [e2]; omega) _).alloc (by rw [e3]; omega) _
  clear e1 e2 e3 hA hG4 hH4
  go_enter Tryd.func37, Tryd.ntmps37
  go_wp2
  refine wp_loop_rounds 1 ?_
  rw [rounds_succ]
  go_wp2
  go_ret
  exact ⟨rfl, _, HB.out, rfl⟩

end Go.Proofs.YtgpjlgffmlkkoaaDoor
