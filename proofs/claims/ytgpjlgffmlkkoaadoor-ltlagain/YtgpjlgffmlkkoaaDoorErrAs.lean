/- errors.As of a fault. -/
import Derived.Test.YtgpjlgffmlkkoaaDoorBase
import Derived.LaidEql
import Derived.Stop.Asserts
import Derived.RowKitTokens
namespace Go.Proofs.YtgpjlgffmlkkoaaDoor
open Go.RowKit Go.Extern.Stop Go.Stop Go.Extern

theorem Tryd.asValueOf (t : Addr) (w : World) : (callFunc 52 #[.iface 79 (.pointer (some t))]).run Tryd.prog w = .ok (Next.value (.agg #[.pointer (some ⟨7, 79, none⟩), .pointer (some ⟨w.heap.size, 0, none⟩), .int .u64 150])) (w.alloc (.cells #[.pointer (some t)] 79)) := by kernel_rfl
theorem Tryd.asType (a : Addr) (w : World) : (callFunc 53 #[.agg #[.pointer (some ⟨7, 79, none⟩), .pointer (some a), .int .u64 150]]).run Tryd.prog w = .ok (Next.value (.iface 120 (.agg #[.pointer (some ⟨7, 79, none⟩)]))) w := by kernel_rfl
theorem Tryd.asMethKind (h : Value) (w : World) : (Go.method 271 120 (.agg #[h]) "Kind").run Tryd.prog w = .ok (96, h) w := by kernel_rfl
theorem Tryd.asKind79 (w : World) : (callFunc 96 #[.pointer (some ⟨7, 79, none⟩)]).run Tryd.prog w = .ok (Next.value (.int .u8 22)) w := by kernel_rfl
theorem Tryd.asKind72 (w : World) : (callFunc 96 #[.pointer (some ⟨7, 72, none⟩)]).run Tryd.prog w = .ok (Next.value (.int .u8 25)) w := by kernel_rfl
theorem Tryd.asMethElem (h : Value) (w : World) : (Go.method 271 120 (.agg #[h]) "Elem").run Tryd.prog w = .ok (108, .agg #[h]) w := by kernel_rfl
theorem Tryd.asMethImpl (h : Value) (w : World) : (Go.method 271 120 (.agg #[h]) "Implements").run Tryd.prog w = .ok (109, .agg #[h]) w := by kernel_rfl
theorem Tryd.asMethAssign (h : Value) (w : World) : (Go.method 271 120 (.agg #[h]) "AssignableTo").run Tryd.prog w = .ok (106, .agg #[h]) w := by kernel_rfl
theorem Tryd.asElemT (w : World) : (callFunc 108 #[.agg #[.pointer (some ⟨7, 79, none⟩)]]).run Tryd.prog w = .ok (Next.value (.iface 120 (.agg #[.pointer (some ⟨7, 72, none⟩)]))) w := by kernel_rfl
theorem Tryd.asImpl (w : World) : (callFunc 109 #[.agg #[.pointer (some ⟨7, 72, none⟩)], .iface 120 (.agg #[.pointer (some ⟨7, 52, none⟩)])]).run Tryd.prog w = .ok (Next.value (.bool true)) w := by kernel_rfl
theorem Tryd.asTypeOf (v : Value) (w : World) : (callFunc 56 #[.iface 72 v]).run Tryd.prog w = .ok (Next.value (.iface 120 (.agg #[.pointer (some ⟨7, 72, none⟩)]))) w := by kernel_rfl
theorem Tryd.asAssign (w : World) : (callFunc 106 #[.agg #[.pointer (some ⟨7, 72, none⟩)], .iface 120 (.agg #[.pointer (some ⟨7, 72, none⟩)])]).run Tryd.prog w = .ok (Next.value (.bool true)) w := by kernel_rfl
theorem Tryd.asValueOf72 (u v : Value) (w : World) : (callFunc 52 #[.iface 72 (.agg #[u, v])]).run Tryd.prog w = .ok (Next.value (.agg #[.pointer (some ⟨7, 72, none⟩), .pointer (some ⟨w.heap.size, 0, none⟩), .int .u64 153])) (w.alloc (.cells #[u, v] 72)) := by kernel_rfl

end Go.Proofs.YtgpjlgffmlkkoaaDoor
