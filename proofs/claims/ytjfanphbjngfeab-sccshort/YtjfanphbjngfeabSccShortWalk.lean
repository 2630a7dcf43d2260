/- The law SccShort, by the contracts of what it calls. -/
import Derived.Test.YtjfanphbjngfeabShort
import Derived.Test.YtjfanphbjngfeabSccJoinedWalk
namespace Go.Proofs.Ytjfanphbjngfeab
open Go.RowKit

def litSL (r : Nat) : Nat := if r = 0 then 2 else if r = 1 then 1 else 0
def litSZ (r i : Nat) : Int := if r = 0 ∧ i = 1 then 1 else 2
def litST (i : Nat) : Bool := decide (i = 2)

def litW (w : World) : World := (((((w.alloc (.cells #[.int .i64 2, .int .i64 1] 3)).alloc (.cells #[.int .i64 2] 3)).alloc (.cells #[] 3)).alloc (.cells #[.slice (some ⟨w.heap.size, 0, none⟩) 2 2, .slice (some ⟨w.heap.size + 1, 0, none⟩) 1 1, .slice (some ⟨w.heap.size + 1 + 1, 0, none⟩) 0 0] 23)).alloc (.cells #[.int .i64 0] 3)).alloc (.cells #[.bool false, .bool false, .bool true] 4)

theorem litS_gr (w : World) : Gr (litW w) (some ⟨w.heap.size + 1 + 1 + 1, 0, none⟩) 3 litSL litSZ := by
  have h1 := rowIs_lit w #[.int .i64 2, .int .i64 1] 3 w.heap.size 2 (fun i => .int .i64 (litSZ 0 i)) rfl rfl (fun i hi => by
    match i, hi with
    | 0, _ => rfl
    | 1, _ => rfl)
  have h2 := rowIs_lit (w.alloc (.cells #[.int .i64 2, .int .i64 1] 3)) #[.int .i64 2] 3 (w.heap.size + 1) 1 (fun i => .int .i64 (litSZ 1 i)) (by simp) rfl (fun i hi => by
    match i, hi with
    | 0, _ => rfl)
  have h4 := rowIs_lit (((w.alloc (.cells #[.int .i64 2, .int .i64 1] 3)).alloc (.cells #[.int .i64 2] 3)).alloc (.cells #[] 3))
    #[.slice (some ⟨w.heap.size, 0, none⟩) 2 2, .slice (some ⟨w.heap.size + 1, 0, none⟩) 1 1, .slice (some ⟨w.heap.size + 1 + 1, 0, none⟩) 0 0] 23 (w.heap.size + 1 + 1 + 1) 3
    (fun i => .slice (some ⟨w.heap.size + i, 0, none⟩) (litSL i) (litSL i)) (by simp) rfl (fun i hi => by
      match i, hi with
      | 0, _ => rfl
      | 1, _ => rfl
      | 2, _ => rfl)
  refine ⟨w.heap.size + 1 + 1 + 1, 0, fun _ => rfl, fun r hr => ⟨some ⟨w.heap.size + r, 0, none⟩, litSL r, by rw [Nat.zero_add]; exact ((h4.alloc _).alloc _).cell hr, ?_⟩⟩
  match r, hr with
  | 0, _ => exact row_of_rowIs (((((h1.alloc _).alloc _).alloc _).alloc _).alloc _)
  | 1, _ => exact row_of_rowIs ((((h2.alloc _).alloc _).alloc _).alloc _)
  | 2, _ => exact row_zero _ _ _

theorem litS_row (w : World) : Row (litW w) (some ⟨w.heap.size + 1 + 1 + 1 + 1, 0, none⟩) 1 (fun _ => 0) :=
  row_of_rowIs ((rowIs_lit _ #[.int .i64 0] 3 _ 1 (fun _ => .int .i64 0) (by simp) rfl (one_get _)).alloc _)
theorem litS_rowb (w : World) : Rowb (litW w) (some ⟨w.heap.size + 1 + 1 + 1 + 1 + 1, 0, none⟩) 3 litST :=
  rowb_of_rowIs (rowIs_lit _ #[.bool false, .bool false, .bool true] 4 _ 3 (fun i => .bool (litST i)) (by simp) rfl (fun i hi => by
    match i, hi with
    | 0, _ => rfl
    | 1, _ => rfl
    | 2, _ => rfl))
theorem litS_err : errF 3 litSL litSZ 1 (fun _ => 0) = 0 := by decide
theorem below_litS (w : World) : Below w.heap.size w (litW w) :=
  ((((((Below.refl _ _).alloc (Nat.le_refl _) _).alloc (by simp) _).alloc (by simp; omega) _).alloc (by simp; omega) _).alloc (by simp; omega) _).alloc (by simp; omega) _
theorem litS_ego : Ego 3 litSL litSZ 0 2 := ⟨by omega, 0, by decide, rfl⟩

theorem litS_way {w w' : World} {v : Value} {is : Bool} (h : WayIs 3 litSL litSZ litST 1 (fun _ => 0) w w' v is) : is = true ∧ ∃ a c, v = .slice a 2 c ∧ Row w' a 2 (fun i => if i = 0 then 0 else 2) := by
  obtain ⟨a, k, c, R, rfl, hr, hk⟩ := h.row
  rcases hk with ⟨_, _, hno⟩ | ⟨e, F, len, hN, rfl, hR⟩
  · refine absurd ⟨1, 0, ?_, ?_⟩ (hno 2 (by omega) (by decide))
    · rw [src_eq]; exact ⟨0, by omega, rfl⟩
    · rw [ed_ego]; exact litS_ego
  · refine ⟨e, ?_⟩
    have hl : len = 1 := by
      obtain ⟨t, ht, hT, hF⟩ := hN.tgt
      have ht2 : t = 2 := by simpa [litST] using hT
      subst ht2
      have h1 := (hN.all 1 2 ht ⟨0, ⟨0, by omega, rfl⟩, litS_ego⟩).2
      obtain ⟨_, _, hw⟩ := hN.snd 2 ht (by omega)
      by_cases e0 : len = 0
      · subst e0
        rw [hF] at hw
        obtain ⟨_, _, e⟩ := hw
        exact absurd e (by decide)
      · omega
    subst hl
    refine ⟨a, c, rfl, ?_⟩
    obtain ⟨b, o, h1, h2⟩ := hr
    refine ⟨b, o, h1, fun i hi => ?_⟩
    rw [h2 i hi, hR i hi]
    match i, hi with
    | 0, _ => rfl
    | 1, _ => rfl

theorem two_int (i : Nat) (hi : i < 2) : (#[.int .i64 0, .int .i64 2] : Array Value)[i]? = some (.int .i64 (if i = 0 then 0 else 2)) := by
  match i, hi with
  | 0, _ => rfl
  | 1, _ => rfl

end Go.Proofs.Ytjfanphbjngfeab
