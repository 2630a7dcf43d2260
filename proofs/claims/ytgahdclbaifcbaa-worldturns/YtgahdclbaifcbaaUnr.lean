/- Rest, unrolled. -/
import Derived.Maps.AppendAt
import Derived.Laws.OwnMore
import Derived.WalkSmall
import Derived.Deep.AppendLies
import Derived.Test.YtgahdclbaifcbaaLea
import Derived.Test.YtgahdclbaifcbaaHeld
import Derived.Test.YtgahdclbaifcbaaSte
import Derived.Test.YtgahdclbaifcbaaBase
import Derived.Test.YtgahdclbaifcbaaNmb
namespace Go.Proofs.Ytgahdclbaifcbaa
open Go.RowKit

theorem rest_eq (k d : Int) (hd : 0 < d) : (if k.tmod d < 0 then k.tmod d + d else k.tmod d) = k % d := by
  have h := Int.tmod_eq_emod (a := k) (b := d)
  have h1 := Int.emod_nonneg k (show d ≠ 0 by omega)
  have h2 := Int.emod_lt_of_pos k hd
  split at h
  · rw [h, if_neg (by omega)]; omega
  · rw [h, if_pos (by omega)]; omega

set_option maxHeartbeats 400000 in
theorem rest_any (k : Int) (d : Nat) (w : World) (hd : 0 < d) (hd2 : d ≤ 1000) (_hk1 : -9223372036854775808 ≤ k) (_hk2 : k ≤ 9223372036854775807) :
    Calls Try.prog 24 #[.int .i64 k, .int .i64 d] w fun e w' => e = .returned (.int .i64 (k % d)) ∧ w' = w := by
  have HE := hid (rest_eq k d (by omega))
  have hd0 : ¬ d = 0 := by omega
  have b1 := Int.tmod_eq_emod (a := k) (b := (d : Int))
  have b2 := Int.emod_nonneg k (show (d : Int) ≠ 0 by omega)
  have b3 := Int.emod_lt_of_pos k (show (0 : Int) < d by omega)
  have c1 : -(d : Int) ≤ k.tmod d ∧ k.tmod d < d := by
    split at b1 <;> omega
  obtain ⟨c1, c2⟩ := c1
  clear b1 b2 b3
  have hd3 : (d : Int) ≤ 1000 := by omega
  by_cases hneg : k.tmod d < 0
  · have E2 : Hid (k.tmod d + d = k % d) := by have := HE.out; rw [if_pos hneg] at this; exact hid this
    clear HE
    go_enter Try.func24, Try.ntmps24
    go_wp2
    go_ret
    exact ⟨ret_int (by first | exact E2.out | (rw [← E2.out]; unfold wrap64; omega)), rfl⟩
  · have E2 : Hid (k.tmod d = k % d) := by have := HE.out; rw [if_neg hneg] at this; exact hid this
    clear HE
    go_enter Try.func24, Try.ntmps24
    go_wp2
    go_ret
    exact ⟨ret_int E2.out, rfl⟩

end Go.Proofs.Ytgahdclbaifcbaa

