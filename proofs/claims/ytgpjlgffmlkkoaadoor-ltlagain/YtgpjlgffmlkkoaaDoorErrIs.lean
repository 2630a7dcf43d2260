/- errors.Is of a fault and a sentinel. -/
import Derived.Test.YtgpjlgffmlkkoaaDoorBase
import Derived.LaidEql
import Derived.Stop.Asserts
import Derived.RowKitTokens
namespace Go.Proofs.YtgpjlgffmlkkoaaDoor
open Go.RowKit Go.Extern.Stop Go.Stop Go.Extern

theorem Tryd.callTypeOf (v : Value) (w : World) : (callFunc 56 #[.iface 139 v]).run Tryd.prog w = .ok (Next.value (.iface 120 (.agg #[.pointer (some ⟨7, 139, none⟩)]))) w := by kernel_rfl
theorem Tryd.callComparable (w : World) : (callFunc 107 #[.agg #[.pointer (some ⟨7, 139, none⟩)]]).run Tryd.prog w = .ok (Next.value (.bool true)) w := by kernel_rfl
theorem Tryd.methComparable (v : Value) (w : World) : (Go.method 271 120 v "Comparable").run Tryd.prog w = .ok (107, v) w := by kernel_rfl
theorem Tryd.methUnwrap (v : Value) (w : World) : (Go.method 271 72 v "Unwrap").run Tryd.prog w = .ok (101, v) w := by kernel_rfl
theorem Tryd.isComp : (Tryd.prog.info? 139).map (·.comparable) = some true := by kernel_rfl
theorem Tryd.isSize : (Tryd.prog.info? 159).map (·.size) = some 1 := by kernel_rfl
theorem Tryd.noIsE (v : Value) (xT : TypeId) (w : World) : (Instr.typeAssert (.iface 139 v) xT 131 true).run Tryd.prog w = .ok (.tuple #[.nilIface, .bool false]) w := run_typeAssert_lacksB Tryd.underlying131 (by kernel_rfl) (by kernel_rfl) v xT w
theorem Tryd.noUnwrapE (v : Value) (xT : TypeId) (w : World) : (Instr.typeAssert (.iface 139 v) xT 127 true).run Tryd.prog w = .ok (.tuple #[.nilIface, .bool false]) w := run_typeAssert_lacksB Tryd.underlying127 (by kernel_rfl) (by kernel_rfl) v xT w
theorem Tryd.noUnwrapsE (v : Value) (xT : TypeId) (w : World) : (Instr.typeAssert (.iface 139 v) xT 128 true).run Tryd.prog w = .ok (.tuple #[.nilIface, .bool false]) w := run_typeAssert_lacksB Tryd.underlying128 (by kernel_rfl) (by kernel_rfl) v xT w
theorem Tryd.noIsW (v : Value) (xT : TypeId) (w : World) : (Instr.typeAssert (.iface 72 v) xT 131 true).run Tryd.prog w = .ok (.tuple #[.nilIface, .bool false]) w := run_typeAssert_lacksB Tryd.underlying131 (by kernel_rfl) (by kernel_rfl) v xT w
theorem Tryd.hasUnwrapW (v : Value) (xT : TypeId) (w : World) : (Instr.typeAssert (.iface 72 v) xT 127 true).run Tryd.prog w = .ok (.tuple #[.iface 72 v, .bool true]) w := run_typeAssert_hasB Tryd.underlying127 (by kernel_rfl) v xT w

set_option maxHeartbeats 4000000 in
set_option maxRecDepth 100000 in
theorem is_same (b : Addr) (p : Int) (w : World) :
    Calls Tryd.prog 38 #[.iface 72 (.agg #[.iface 139 (.pointer (some b)), .int .i64 p]), .iface 139 (.pointer (some b))] w fun e w' => e = .returned (.bool true) ∧ Below w.heap.size w w' := by
  obtain ⟨i, hi, hcmp⟩ := Option.map_eq_some_iff.1 Tryd.isComp
  obtain ⟨j, hj, hjs⟩ := Option.map_eq_some_iff.1 Tryd.isSize
  have tT := Tryd.callTypeOf
  have cT := Tryd.callComparable
  have mR := Tryd.methComparable
  have mU := Tryd.methUnwrap
  have nE := Tryd.noIsE
  have uE := Tryd.noUnwrapE
  have vE := Tryd.noUnwrapsE
  have nW := Tryd.noIsW
  have uW := Tryd.hasUnwrapW
  have heq := fun W => run_eql_iface_ptr_same (P := Tryd.prog) W b Tryd.underlying52 Tryd.underlying139 hi hcmp hj
  have hty := run_eql_iface_types (P := Tryd.prog) 72 139 (.agg #[.iface 139 (.pointer (some b)), .int .i64 p]) (.pointer (some b)) Tryd.underlying52 (by decide) w
  go_enter Tryd.func38, Tryd.ntmps38
  go_wp2
  refine wp_loop_rounds 2 ?_
  rw [rounds_succ]
  go_wp2
  rw [rounds_succ]
  go_wp2
  go_ret
  exact ⟨rfl, box_below _ _⟩

set_option maxHeartbeats 4000000 in
set_option maxRecDepth 100000 in
theorem is_other (a b : Addr) (ca cb : Array Value) (ta tb : TypeId) (p : Int) (w : World) (hne : a ≠ b) (ha : w.heap[a.block]? = some (.cells ca ta (0, 0))) (hb : w.heap[b.block]? = some (.cells cb tb (0, 0))) :
    Calls Tryd.prog 38 #[.iface 72 (.agg #[.iface 139 (.pointer (some a)), .int .i64 p]), .iface 139 (.pointer (some b))] w fun e w' => e = .returned (.bool false) ∧ Below w.heap.size w w' := by
  obtain ⟨i, hi, hcmp⟩ := Option.map_eq_some_iff.1 Tryd.isComp
  obtain ⟨j, hj, hjs⟩ := Option.map_eq_some_iff.1 Tryd.isSize
  have tT := Tryd.callTypeOf
  have cT := Tryd.callComparable
  have mR := Tryd.methComparable
  have mU := Tryd.methUnwrap
  have nE := Tryd.noIsE
  have uE := Tryd.noUnwrapE
  have vE := Tryd.noUnwrapsE
  have nW := Tryd.noIsW
  have uW := Tryd.hasUnwrapW
  have heq := run_eql_iface_ptr_other (P := Tryd.prog) (w.alloc (.cells #[.iface 139 (.pointer (some a)), .int .i64 p] 72)) Tryd.underlying52 Tryd.underlying139 hi hcmp hj (by rw [hjs]; decide) hne ((Go.Deep.blk_alloc_lt _ _ _ (Array.getElem?_eq_some_iff.1 ha).1).trans ha) ((Go.Deep.blk_alloc_lt _ _ _ (Array.getElem?_eq_some_iff.1 hb).1).trans hb)
  have hty := run_eql_iface_types (P := Tryd.prog) 72 139 (.agg #[.iface 139 (.pointer (some a)), .int .i64 p]) (.pointer (some b)) Tryd.underlying52 (by decide) w
  go_enter Tryd.func38, Tryd.ntmps38
  go_wp2
  refine wp_loop_rounds 2 ?_
  rw [rounds_succ]
  go_wp2
  rw [rounds_succ]
  go_wp2
  go_ret
  exact ⟨rfl, box_below _ _⟩

end Go.Proofs.YtgpjlgffmlkkoaaDoor
