/- All of the first n. -/
import Derived.Test.YtinacgkiigbmjaaDoorFml
namespace Go.Proofs.YtinacgkiigbmjaaDoor
open Go.RowKit

/-- Is it so of the first n? -/
def allTo (r : Nat → Bool) : Nat → Bool
  | 0 => true
  | n + 1 => allTo r n && r n

theorem allTo_iff (r : Nat → Bool) : ∀ n, allTo r n = true ↔ ∀ i, i < n → r i = true
  | 0 => ⟨fun _ i hi => absurd hi (Nat.not_lt_zero i), fun _ => rfl⟩
  | n + 1 => by
    rw [allTo, Bool.and_eq_true, allTo_iff r n]
    exact ⟨fun h => snoc_all h.1 h.2, fun h => ⟨fun i hi => h i (by omega), h n (by omega)⟩⟩

theorem allTo_congr {r q : Nat → Bool} : ∀ n, (∀ i, i < n → r i = q i) → allTo r n = allTo q n
  | 0, _ => rfl
  | n + 1, h => by rw [allTo, allTo, allTo_congr n (fun i hi => h i (by omega)), h n (by omega)]

/-- The Kids of a formula lie at block b from o on. -/
def KidsAt (w : World) (b o c : Nat) (kid : Nat → Fml) : Prop := ∀ i, i < c → ∃ ai ci,
      w.cell? ⟨b, o + i * 3, none⟩ = some (.int .i64 (kid i).kind) ∧ w.cell? ⟨b, o + i * 3 + 1, none⟩ = some (.int .i64 (kid i).num) ∧
      w.cell? ⟨b, o + i * 3 + 2, none⟩ = some (.slice ai (kid i).cnt ci) ∧ (kid i).cnt ≤ 9223372036854775807 ∧ Kds w (kid i) ai

end Go.Proofs.YtinacgkiigbmjaaDoor
