/- Lists of letters: append, Grow, Concat, Clone. -/
import Derived.Laws.AppendOwnNone
import Derived.Lib.AppendZeros
import Derived.Test.YtgahdclbaifcbaaRws
namespace Go.Proofs.Ytgahdclbaifcbaa
open Go.RowKit

theorem Try.info70 : (Try.prog.info? 70).map (fun i => (i.zero, i.size, i.bytes)) = some (some (.int .u64 0), 1, 8) := by kernel_rfl

theorem info_parts {P : Program} {e : TypeId} {z : Option Value} {s b : Nat} (h : (P.info? e).map (fun i => (i.zero, i.size, i.bytes)) = some (z, s, b)) : ∃ i, P.info? e = some i ∧ i.zero = z ∧ i.size = s ∧ i.bytes = b := by
  obtain ⟨i, hi, he⟩ := Option.map_eq_some_iff.1 h
  simp only [Prod.mk.injEq] at he
  exact ⟨i, hi, he⟩

/-- The letters as cells. -/
def valsU (l : List Int) : List Value := l.map (Value.int .u64)
/-- n letters as a list. -/
def lstU (n : Nat) (Z : Nat → Int) : List Int := (List.range n).map Z
theorem lstU_len (n : Nat) (Z : Nat → Int) : (lstU n Z).length = n := by simp [lstU]
theorem valsU_len (l : List Int) : (valsU l).length = l.length := by simp [valsU]
theorem valsU_one (l : List Int) : ∀ u ∈ valsU l, u.oneCell' = true := by
  intro u hu
  obtain ⟨x, _, rfl⟩ := List.mem_map.1 hu
  rfl

theorem addr_none (b o k : Nat) : (⟨b, o, none⟩ : Addr).add k = ⟨b, o + k, none⟩ := by
  unfold Addr.add
  split <;> simp_all

theorem news_of_rowU {w : World} {x : Addr} {n : Nat} {Z : Nat → Int} (h : RowU w (some x) n Z) : ∀ j u, (valsU (lstU n Z))[j]? = some u → w.cell? (x.add j) = some u := by
  intro j u hu
  obtain ⟨b, o, ha, hc⟩ := h
  have hj : j < n := by
    have := (List.getElem?_eq_some_iff.1 hu).1
    rwa [valsU_len, lstU_len] at this
  have hx := ha (by omega)
  simp only [Option.some.injEq] at hx
  subst hx
  have e : (valsU (lstU n Z))[j]? = some (.int .u64 (Z j)) := by simp [valsU, lstU, hj]
  rw [e] at hu
  cases hu
  rw [addr_none]
  exact hc j hj

end Go.Proofs.Ytgahdclbaifcbaa

