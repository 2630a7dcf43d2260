
import Derived.Test.YtmdpbaobihdgkaaGreatDoorTccJ
/- tableau: each, once a closure. -/
namespace Go.Proofs.YtmdpbaobihdgkaaGreatDoor
open Go.RowKit
set_option maxHeartbeats 1000000 in
theorem each51_91 (w0 : World) (a : Option Addr) (N c : Nat) (F : Nat → Bool) (k1 : Value) (hN : N ≤ 10)
  (hf : ∀ (p : Nat) u, p < 2 ^ N → Below w0.heap.size w0 u → Calls Tryz.prog 91 #[.int .i64 p, k1] u fun e u' => e = .returned (.bool (F p)) ∧ Below u.heap.size u u') :
  Calls Tryz.prog 51 #[.agg #[.slice a N c], .func (.func 91) #[] #[k1]] w0 fun e w' => NewB w0 (2 ^ N) F e w' := by
 obtain ⟨n, hn⟩ : ∃ n, n = 2 ^ N := ⟨_, rfl⟩
 have hn1 : n ≤ 1024 := by rw [hn]; exact Nat.le_trans (Nat.pow_le_pow_right (by decide) hN) (by decide)
 have C58 := hid (count58 N a c (w0.alloc (.cells #[.slice a N c] 53)) hN)
 rw [← hn] at hf C58 ⊢
 clear hn hN
 have hmk := run_make_row' (P := Tryz.prog) 44 4 (.bool false) 1 Tryz.underlying44 Tryz.info4 rfl .i64 .i64 n (by omega) (by omega)
 have HF := hid hf
 have HB0 := hid (box_below w0 (.cells #[.slice a N c] 53))
 clear hf
 go_enter Tryz.func51, Tryz.ntmps51
 go_wp2_with fail
 refine C58.out.mono ?_
 rintro e z ⟨rfl, hbz⟩
 have HZ : Hid (Below w0.heap.size w0 z) := hid (HB0.out.trans (hbz.mono HB0.out.size))
 clear hbz C58 HB0
 have HS1 : Hid (Below w0.heap.size w0 (z.alloc (.cells (madeCells #[.bool false] n) 4)) ∧ (z.alloc (.cells (madeCells #[.bool false] n) 4)).rowIs z.heap.size 4 n (fun _ => .bool false)) :=
  hid ⟨HZ.out.alloc HZ.out.size _, World.rowIs_made z (.bool false) n 4⟩
 have hzs := HZ.out.size
 go_wp2
 clear hmk
 go_loopw [12] (fun i wr => ∃ k : Nat, k ≤ n ∧ i = .int .i64 k ∧ Hid (Below w0.heap.size w0 wr ∧ wr.rowIs z.heap.size 4 n (fun x => .bool (if x < k then F x else false)))) (fun i _ => n - (intOf i).toNat)
 case atStart => exact ⟨0, Nat.zero_le _, rfl, hid ⟨HS1.out.1, HS1.out.2.congr (fun i _ => by rw [if_neg (by omega)])⟩⟩
 case round =>
  obtain ⟨k, hk, rfl, HW⟩ := hrel
  by_cases hlt : k < n
  ·have C := hid (HF.out k wr hlt HW.out.1)
   go_wp2_with fail
   refine C.out.mono ?_
   rintro e w2 ⟨rfl, hb2⟩
   have hr2 : w2.rowIs z.heap.size 4 n (fun x => .bool (if x < k then F x else false)) := HW.out.2.of_block (hb2.block _ HW.out.2.lt)
   have hB2 : Below w0.heap.size w0 w2 := HW.out.1.trans (hb2.mono HW.out.1.size)
   have H2 := hid (And.intro hB2 hr2)
   have hc := hr2.cell hlt
   have hz := hr2.frozen k
   clear C hb2 hr2 hB2
   go_wp2
   go_roundw
   case rel =>
    refine ⟨k + 1, by omega, by go_num, hid ⟨H2.out.1.setCell hzs _, (H2.out.2.set k _).congr (fun i hi => ?_)⟩⟩
    by_cases e : i = k
    ·subst e; simp
    ·rw [if_neg e]
     by_cases e2 : i < k
     ·rw [if_pos e2, if_pos (by omega)]
     ·rw [if_neg e2, if_neg (by omega)]
   case measure => simp [intOf]; omega
  ·go_wp2
   go_ret
   exact ⟨z.heap.size, rfl, hzs, HW.out.2.congr (fun i hi => by rw [if_pos (by omega)]), HW.out.1⟩
set_option maxHeartbeats 1000000 in
theorem each51_52 (w0 : World) (a : Option Addr) (N c : Nat) (F : Nat → Bool) (k1 : Value) (hN : N ≤ 10)
  (hf : ∀ (p : Nat) u, p < 2 ^ N → Below w0.heap.size w0 u → Calls Tryz.prog 52 #[.int .i64 p, k1] u fun e u' => e = .returned (.bool (F p)) ∧ Below u.heap.size u u') :
  Calls Tryz.prog 51 #[.agg #[.slice a N c], .func (.func 52) #[] #[k1]] w0 fun e w' => NewB w0 (2 ^ N) F e w' := by
 obtain ⟨n, hn⟩ : ∃ n, n = 2 ^ N := ⟨_, rfl⟩
 have hn1 : n ≤ 1024 := by rw [hn]; exact Nat.le_trans (Nat.pow_le_pow_right (by decide) hN) (by decide)
 have C58 := hid (count58 N a c (w0.alloc (.cells #[.slice a N c] 53)) hN)
 rw [← hn] at hf C58 ⊢
 clear hn hN
 have hmk := run_make_row' (P := Tryz.prog) 44 4 (.bool false) 1 Tryz.underlying44 Tryz.info4 rfl .i64 .i64 n (by omega) (by omega)
 have HF := hid hf
 have HB0 := hid (box_below w0 (.cells #[.slice a N c] 53))
 clear hf
 go_enter Tryz.func51, Tryz.ntmps51
 go_wp2_with fail
 refine C58.out.mono ?_
 rintro e z ⟨rfl, hbz⟩
 have HZ : Hid (Below w0.heap.size w0 z) := hid (HB0.out.trans (hbz.mono HB0.out.size))
 clear hbz C58 HB0
 have HS1 : Hid (Below w0.heap.size w0 (z.alloc (.cells (madeCells #[.bool false] n) 4)) ∧ (z.alloc (.cells (madeCells #[.bool false] n) 4)).rowIs z.heap.size 4 n (fun _ => .bool false)) :=
  hid ⟨HZ.out.alloc HZ.out.size _, World.rowIs_made z (.bool false) n 4⟩
 have hzs := HZ.out.size
 go_wp2
 clear hmk
 go_loopw [12] (fun i wr => ∃ k : Nat, k ≤ n ∧ i = .int .i64 k ∧ Hid (Below w0.heap.size w0 wr ∧ wr.rowIs z.heap.size 4 n (fun x => .bool (if x < k then F x else false)))) (fun i _ => n - (intOf i).toNat)
 case atStart => exact ⟨0, Nat.zero_le _, rfl, hid ⟨HS1.out.1, HS1.out.2.congr (fun i _ => by rw [if_neg (by omega)])⟩⟩
 case round =>
  obtain ⟨k, hk, rfl, HW⟩ := hrel
  by_cases hlt : k < n
  ·have C := hid (HF.out k wr hlt HW.out.1)
   go_wp2_with fail
   refine C.out.mono ?_
   rintro e w2 ⟨rfl, hb2⟩
   have hr2 : w2.rowIs z.heap.size 4 n (fun x => .bool (if x < k then F x else false)) := HW.out.2.of_block (hb2.block _ HW.out.2.lt)
   have hB2 : Below w0.heap.size w0 w2 := HW.out.1.trans (hb2.mono HW.out.1.size)
   have H2 := hid (And.intro hB2 hr2)
   have hc := hr2.cell hlt
   have hz := hr2.frozen k
   clear C hb2 hr2 hB2
   go_wp2
   go_roundw
   case rel =>
    refine ⟨k + 1, by omega, by go_num, hid ⟨H2.out.1.setCell hzs _, (H2.out.2.set k _).congr (fun i hi => ?_)⟩⟩
    by_cases e : i = k
    ·subst e; simp
    ·rw [if_neg e]
     by_cases e2 : i < k
     ·rw [if_pos e2, if_pos (by omega)]
     ·rw [if_neg e2, if_neg (by omega)]
   case measure => simp [intOf]; omega
  ·go_wp2
   go_ret
   exact ⟨z.heap.size, rfl, hzs, HW.out.2.congr (fun i hi => by rw [if_pos (by omega)]), HW.out.1⟩
set_option maxHeartbeats 1000000 in
theorem each51_53 (w0 : World) (a : Option Addr) (N c : Nat) (F : Nat → Bool) (k1 : Value) (hN : N ≤ 10)
  (hf : ∀ (p : Nat) u, p < 2 ^ N → Below w0.heap.size w0 u → Calls Tryz.prog 53 #[.int .i64 p, k1] u fun e u' => e = .returned (.bool (F p)) ∧ Below u.heap.size u u') :
  Calls Tryz.prog 51 #[.agg #[.slice a N c], .func (.func 53) #[] #[k1]] w0 fun e w' => NewB w0 (2 ^ N) F e w' := by
 obtain ⟨n, hn⟩ : ∃ n, n = 2 ^ N := ⟨_, rfl⟩
 have hn1 : n ≤ 1024 := by rw [hn]; exact Nat.le_trans (Nat.pow_le_pow_right (by decide) hN) (by decide)
 have C58 := hid (count58 N a c (w0.alloc (.cells #[.slice a N c] 53)) hN)
 rw [← hn] at hf C58 ⊢
 clear hn hN
 have hmk := run_make_row' (P := Tryz.prog) 44 4 (.bool false) 1 Tryz.underlying44 Tryz.info4 rfl .i64 .i64 n (by omega) (by omega)
 have HF := hid hf
 have HB0 := hid (box_below w0 (.cells #[.slice a N c] 53))
 clear hf
 go_enter Tryz.func51, Tryz.ntmps51
 go_wp2_with fail
 refine C58.out.mono ?_
 rintro e z ⟨rfl, hbz⟩
 have HZ : Hid (Below w0.heap.size w0 z) := hid (HB0.out.trans (hbz.mono HB0.out.size))
 clear hbz C58 HB0
 have HS1 : Hid (Below w0.heap.size w0 (z.alloc (.cells (madeCells #[.bool false] n) 4)) ∧ (z.alloc (.cells (madeCells #[.bool false] n) 4)).rowIs z.heap.size 4 n (fun _ => .bool false)) :=
  hid ⟨HZ.out.alloc HZ.out.size _, World.rowIs_made z (.bool false) n 4⟩
 have hzs := HZ.out.size
 go_wp2
 clear hmk
 go_loopw [12] (fun i wr => ∃ k : Nat, k ≤ n ∧ i = .int .i64 k ∧ Hid (Below w0.heap.size w0 wr ∧ wr.rowIs z.heap.size 4 n (fun x => .bool (if x < k then F x else false)))) (fun i _ => n - (intOf i).toNat)
 case atStart => exact ⟨0, Nat.zero_le _, rfl, hid ⟨HS1.out.1, HS1.out.2.congr (fun i _ => by rw [if_neg (by omega)])⟩⟩
 case round =>
  obtain ⟨k, hk, rfl, HW⟩ := hrel
  by_cases hlt : k < n
  ·have C := hid (HF.out k wr hlt HW.out.1)
   go_wp2_with fail
   refine C.out.mono ?_
   rintro e w2 ⟨rfl, hb2⟩
   have hr2 : w2.rowIs z.heap.size 4 n (fun x => .bool (if x < k then F x else false)) := HW.out.2.of_block (hb2.block _ HW.out.2.lt)
   have hB2 : Below w0.heap.size w0 w2 := HW.out.1.trans (hb2.mono HW.out.1.size)
   have H2 := hid (And.intro hB2 hr2)
   have hc := hr2.cell hlt
   have hz := hr2.frozen k
   clear C hb2 hr2 hB2
   go_wp2
   go_roundw
   case rel =>
    refine ⟨k + 1, by omega, by go_num, hid ⟨H2.out.1.setCell hzs _, (H2.out.2.set k _).congr (fun i hi => ?_)⟩⟩
    by_cases e : i = k
    ·subst e; simp
    ·rw [if_neg e]
     by_cases e2 : i < k
     ·rw [if_pos e2, if_pos (by omega)]
     ·rw [if_neg e2, if_neg (by omega)]
   case measure => simp [intOf]; omega
  ·go_wp2
   go_ret
   exact ⟨z.heap.size, rfl, hzs, HW.out.2.congr (fun i hi => by rw [if_pos (by omega)]), HW.out.1⟩
set_option maxHeartbeats 1000000 in
theorem each51_54 (w0 : World) (a : Option Addr) (N c : Nat) (F : Nat → Bool) (k1 : Value) (hN : N ≤ 10)
  (hf : ∀ (p : Nat) u, p < 2 ^ N → Below w0.heap.size w0 u → Calls Tryz.prog 54 #[.int .i64 p, k1] u fun e u' => e = .returned (.bool (F p)) ∧ Below u.heap.size u u') :
  Calls Tryz.prog 51 #[.agg #[.slice a N c], .func (.func 54) #[] #[k1]] w0 fun e w' => NewB w0 (2 ^ N) F e w' := by
 obtain ⟨n, hn⟩ : ∃ n, n = 2 ^ N := ⟨_, rfl⟩
 have hn1 : n ≤ 1024 := by rw [hn]; exact Nat.le_trans (Nat.pow_le_pow_right (by decide) hN) (by decide)
 have C58 := hid (count58 N a c (w0.alloc (.cells #[.slice a N c] 53)) hN)
 rw [← hn] at hf C58 ⊢
 clear hn hN
 have hmk := run_make_row' (P := Tryz.prog) 44 4 (.bool false) 1 Tryz.underlying44 Tryz.info4 rfl .i64 .i64 n (by omega) (by omega)
 have HF := hid hf
 have HB0 := hid (box_below w0 (.cells #[.slice a N c] 53))
 clear hf
 go_enter Tryz.func51, Tryz.ntmps51
 go_wp2_with fail
 refine C58.out.mono ?_
 rintro e z ⟨rfl, hbz⟩
 have HZ : Hid (Below w0.heap.size w0 z) := hid (HB0.out.trans (hbz.mono HB0.out.size))
 clear hbz C58 HB0
 have HS1 : Hid (Below w0.heap.size w0 (z.alloc (.cells (madeCells #[.bool false] n) 4)) ∧ (z.alloc (.cells (madeCells #[.bool false] n) 4)).rowIs z.heap.size 4 n (fun _ => .bool false)) :=
  hid ⟨HZ.out.alloc HZ.out.size _, World.rowIs_made z (.bool false) n 4⟩
 have hzs := HZ.out.size
 go_wp2
 clear hmk
 go_loopw [12] (fun i wr => ∃ k : Nat, k ≤ n ∧ i = .int .i64 k ∧ Hid (Below w0.heap.size w0 wr ∧ wr.rowIs z.heap.size 4 n (fun x => .bool (if x < k then F x else false)))) (fun i _ => n - (intOf i).toNat)
 case atStart => exact ⟨0, Nat.zero_le _, rfl, hid ⟨HS1.out.1, HS1.out.2.congr (fun i _ => by rw [if_neg (by omega)])⟩⟩
 case round =>
  obtain ⟨k, hk, rfl, HW⟩ := hrel
  by_cases hlt : k < n
  ·have C := hid (HF.out k wr hlt HW.out.1)
   go_wp2_with fail
   refine C.out.mono ?_
   rintro e w2 ⟨rfl, hb2⟩
   have hr2 : w2.rowIs z.heap.size 4 n (fun x => .bool (if x < k then F x else false)) := HW.out.2.of_block (hb2.block _ HW.out.2.lt)
   have hB2 : Below w0.heap.size w0 w2 := HW.out.1.trans (hb2.mono HW.out.1.size)
   have H2 := hid (And.intro hB2 hr2)
   have hc := hr2.cell hlt
   have hz := hr2.frozen k
   clear C hb2 hr2 hB2
   go_wp2
   go_roundw
   case rel =>
    refine ⟨k + 1, by omega, by go_num, hid ⟨H2.out.1.setCell hzs _, (H2.out.2.set k _).congr (fun i hi => ?_)⟩⟩
    by_cases e : i = k
    ·subst e; simp
    ·rw [if_neg e]
     by_cases e2 : i < k
     ·rw [if_pos e2, if_pos (by omega)]
     ·rw [if_neg e2, if_neg (by omega)]
   case measure => simp [intOf]; omega
  ·go_wp2
   go_ret
   exact ⟨z.heap.size, rfl, hzs, HW.out.2.congr (fun i hi => by rw [if_pos (by omega)]), HW.out.1⟩
set_option maxHeartbeats 1000000 in
theorem each51_55 (w0 : World) (a : Option Addr) (N c : Nat) (F : Nat → Bool) (k1 k2 : Value) (hN : N ≤ 10)
  (hf : ∀ (p : Nat) u, p < 2 ^ N → Below w0.heap.size w0 u → Calls Tryz.prog 55 #[.int .i64 p, k1, k2] u fun e u' => e = .returned (.bool (F p)) ∧ Below u.heap.size u u') :
  Calls Tryz.prog 51 #[.agg #[.slice a N c], .func (.func 55) #[] #[k1, k2]] w0 fun e w' => NewB w0 (2 ^ N) F e w' := by
 obtain ⟨n, hn⟩ : ∃ n, n = 2 ^ N := ⟨_, rfl⟩
 have hn1 : n ≤ 1024 := by rw [hn]; exact Nat.le_trans (Nat.pow_le_pow_right (by decide) hN) (by decide)
 have C58 := hid (count58 N a c (w0.alloc (.cells #[.slice a N c] 53)) hN)
 rw [← hn] at hf C58 ⊢
 clear hn hN
 have hmk := run_make_row' (P := Tryz.prog) 44 4 (.bool false) 1 Tryz.underlying44 Tryz.info4 rfl .i64 .i64 n (by omega) (by omega)
 have HF := hid hf
 have HB0 := hid (box_below w0 (.cells #[.slice a N c] 53))
 clear hf
 go_enter Tryz.func51, Tryz.ntmps51
 go_wp2_with fail
 refine C58.out.mono ?_
 rintro e z ⟨rfl, hbz⟩
 have HZ : Hid (Below w0.heap.size w0 z) := hid (HB0.out.trans (hbz.mono HB0.out.size))
 clear hbz C58 HB0
 have HS1 : Hid (Below w0.heap.size w0 (z.alloc (.cells (madeCells #[.bool false] n) 4)) ∧ (z.alloc (.cells (madeCells #[.bool false] n) 4)).rowIs z.heap.size 4 n (fun _ => .bool false)) :=
  hid ⟨HZ.out.alloc HZ.out.size _, World.rowIs_made z (.bool false) n 4⟩
 have hzs := HZ.out.size
 go_wp2
 clear hmk
 go_loopw [12] (fun i wr => ∃ k : Nat, k ≤ n ∧ i = .int .i64 k ∧ Hid (Below w0.heap.size w0 wr ∧ wr.rowIs z.heap.size 4 n (fun x => .bool (if x < k then F x else false)))) (fun i _ => n - (intOf i).toNat)
 case atStart => exact ⟨0, Nat.zero_le _, rfl, hid ⟨HS1.out.1, HS1.out.2.congr (fun i _ => by rw [if_neg (by omega)])⟩⟩
 case round =>
  obtain ⟨k, hk, rfl, HW⟩ := hrel
  by_cases hlt : k < n
  ·have C := hid (HF.out k wr hlt HW.out.1)
   go_wp2_with fail
   refine C.out.mono ?_
   rintro e w2 ⟨rfl, hb2⟩
   have hr2 : w2.rowIs z.heap.size 4 n (fun x => .bool (if x < k then F x else false)) := HW.out.2.of_block (hb2.block _ HW.out.2.lt)
   have hB2 : Below w0.heap.size w0 w2 := HW.out.1.trans (hb2.mono HW.out.1.size)
   have H2 := hid (And.intro hB2 hr2)
   have hc := hr2.cell hlt
   have hz := hr2.frozen k
   clear C hb2 hr2 hB2
   go_wp2
   go_roundw
   case rel =>
    refine ⟨k + 1, by omega, by go_num, hid ⟨H2.out.1.setCell hzs _, (H2.out.2.set k _).congr (fun i hi => ?_)⟩⟩
    by_cases e : i = k
    ·subst e; simp
    ·rw [if_neg e]
     by_cases e2 : i < k
     ·rw [if_pos e2, if_pos (by omega)]
     ·rw [if_neg e2, if_neg (by omega)]
   case measure => simp [intOf]; omega
  ·go_wp2
   go_ret
   exact ⟨z.heap.size, rfl, hzs, HW.out.2.congr (fun i hi => by rw [if_pos (by omega)]), HW.out.1⟩
set_option maxHeartbeats 1000000 in
theorem each51_56 (w0 : World) (a : Option Addr) (N c : Nat) (F : Nat → Bool) (k1 k2 : Value) (hN : N ≤ 10)
  (hf : ∀ (p : Nat) u, p < 2 ^ N → Below w0.heap.size w0 u → Calls Tryz.prog 56 #[.int .i64 p, k1, k2] u fun e u' => e = .returned (.bool (F p)) ∧ Below u.heap.size u u') :
  Calls Tryz.prog 51 #[.agg #[.slice a N c], .func (.func 56) #[] #[k1, k2]] w0 fun e w' => NewB w0 (2 ^ N) F e w' := by
 obtain ⟨n, hn⟩ : ∃ n, n = 2 ^ N := ⟨_, rfl⟩
 have hn1 : n ≤ 1024 := by rw [hn]; exact Nat.le_trans (Nat.pow_le_pow_right (by decide) hN) (by decide)
 have C58 := hid (count58 N a c (w0.alloc (.cells #[.slice a N c] 53)) hN)
 rw [← hn] at hf C58 ⊢
 clear hn hN
 have hmk := run_make_row' (P := Tryz.prog) 44 4 (.bool false) 1 Tryz.underlying44 Tryz.info4 rfl .i64 .i64 n (by omega) (by omega)
 have HF := hid hf
 have HB0 := hid (box_below w0 (.cells #[.slice a N c] 53))
 clear hf
 go_enter Tryz.func51, Tryz.ntmps51
 go_wp2_with fail
 refine C58.out.mono ?_
 rintro e z ⟨rfl, hbz⟩
 have HZ : Hid (Below w0.heap.size w0 z) := hid (HB0.out.trans (hbz.mono HB0.out.size))
 clear hbz C58 HB0
 have HS1 : Hid (Below w0.heap.size w0 (z.alloc (.cells (madeCells #[.bool false] n) 4)) ∧ (z.alloc (.cells (madeCells #[.bool false] n) 4)).rowIs z.heap.size 4 n (fun _ => .bool false)) :=
  hid ⟨HZ.out.alloc HZ.out.size _, World.rowIs_made z (.bool false) n 4⟩
 have hzs := HZ.out.size
 go_wp2
 clear hmk
 go_loopw [12] (fun i wr => ∃ k : Nat, k ≤ n ∧ i = .int .i64 k ∧ Hid (Below w0.heap.size w0 wr ∧ wr.rowIs z.heap.size 4 n (fun x => .bool (if x < k then F x else false)))) (fun i _ => n - (intOf i).toNat)
 case atStart => exact ⟨0, Nat.zero_le _, rfl, hid ⟨HS1.out.1, HS1.out.2.congr (fun i _ => by rw [if_neg (by omega)])⟩⟩
 case round =>
  obtain ⟨k, hk, rfl, HW⟩ := hrel
  by_cases hlt : k < n
  ·have C := hid (HF.out k wr hlt HW.out.1)
   go_wp2_with fail
   refine C.out.mono ?_
   rintro e w2 ⟨rfl, hb2⟩
   have hr2 : w2.rowIs z.heap.size 4 n (fun x => .bool (if x < k then F x else false)) := HW.out.2.of_block (hb2.block _ HW.out.2.lt)
   have hB2 : Below w0.heap.size w0 w2 := HW.out.1.trans (hb2.mono HW.out.1.size)
   have H2 := hid (And.intro hB2 hr2)
   have hc := hr2.cell hlt
   have hz := hr2.frozen k
   clear C hb2 hr2 hB2
   go_wp2
   go_roundw
   case rel =>
    refine ⟨k + 1, by omega, by go_num, hid ⟨H2.out.1.setCell hzs _, (H2.out.2.set k _).congr (fun i hi => ?_)⟩⟩
    by_cases e : i = k
    ·subst e; simp
    ·rw [if_neg e]
     by_cases e2 : i < k
     ·rw [if_pos e2, if_pos (by omega)]
     ·rw [if_neg e2, if_neg (by omega)]
   case measure => simp [intOf]; omega
  ·go_wp2
   go_ret
   exact ⟨z.heap.size, rfl, hzs, HW.out.2.congr (fun i hi => by rw [if_pos (by omega)]), HW.out.1⟩
set_option maxHeartbeats 1000000 in
theorem each51_57 (w0 : World) (a : Option Addr) (N c : Nat) (F : Nat → Bool) (k1 : Value) (hN : N ≤ 10)
  (hf : ∀ (p : Nat) u, p < 2 ^ N → Below w0.heap.size w0 u → Calls Tryz.prog 57 #[.int .i64 p, k1] u fun e u' => e = .returned (.bool (F p)) ∧ Below u.heap.size u u') :
  Calls Tryz.prog 51 #[.agg #[.slice a N c], .func (.func 57) #[] #[k1]] w0 fun e w' => NewB w0 (2 ^ N) F e w' := by
 obtain ⟨n, hn⟩ : ∃ n, n = 2 ^ N := ⟨_, rfl⟩
 have hn1 : n ≤ 1024 := by rw [hn]; exact Nat.le_trans (Nat.pow_le_pow_right (by decide) hN) (by decide)
 have C58 := hid (count58 N a c (w0.alloc (.cells #[.slice a N c] 53)) hN)
 rw [← hn] at hf C58 ⊢
 clear hn hN
 have hmk := run_make_row' (P := Tryz.prog) 44 4 (.bool false) 1 Tryz.underlying44 Tryz.info4 rfl .i64 .i64 n (by omega) (by omega)
 have HF := hid hf
 have HB0 := hid (box_below w0 (.cells #[.slice a N c] 53))
 clear hf
 go_enter Tryz.func51, Tryz.ntmps51
 go_wp2_with fail
 refine C58.out.mono ?_
 rintro e z ⟨rfl, hbz⟩
 have HZ : Hid (Below w0.heap.size w0 z) := hid (HB0.out.trans (hbz.mono HB0.out.size))
 clear hbz C58 HB0
 have HS1 : Hid (Below w0.heap.size w0 (z.alloc (.cells (madeCells #[.bool false] n) 4)) ∧ (z.alloc (.cells (madeCells #[.bool false] n) 4)).rowIs z.heap.size 4 n (fun _ => .bool false)) :=
  hid ⟨HZ.out.alloc HZ.out.size _, World.rowIs_made z (.bool false) n 4⟩
 have hzs := HZ.out.size
 go_wp2
 clear hmk
 go_loopw [12] (fun i wr => ∃ k : Nat, k ≤ n ∧ i = .int .i64 k ∧ Hid (Below w0.heap.size w0 wr ∧ wr.rowIs z.heap.size 4 n (fun x => .bool (if x < k then F x else false)))) (fun i _ => n - (intOf i).toNat)
 case atStart => exact ⟨0, Nat.zero_le _, rfl, hid ⟨HS1.out.1, HS1.out.2.congr (fun i _ => by rw [if_neg (by omega)])⟩⟩
 case round =>
  obtain ⟨k, hk, rfl, HW⟩ := hrel
  by_cases hlt : k < n
  ·have C := hid (HF.out k wr hlt HW.out.1)
   go_wp2_with fail
   refine C.out.mono ?_
   rintro e w2 ⟨rfl, hb2⟩
   have hr2 : w2.rowIs z.heap.size 4 n (fun x => .bool (if x < k then F x else false)) := HW.out.2.of_block (hb2.block _ HW.out.2.lt)
   have hB2 : Below w0.heap.size w0 w2 := HW.out.1.trans (hb2.mono HW.out.1.size)
   have H2 := hid (And.intro hB2 hr2)
   have hc := hr2.cell hlt
   have hz := hr2.frozen k
   clear C hb2 hr2 hB2
   go_wp2
   go_roundw
   case rel =>
    refine ⟨k + 1, by omega, by go_num, hid ⟨H2.out.1.setCell hzs _, (H2.out.2.set k _).congr (fun i hi => ?_)⟩⟩
    by_cases e : i = k
    ·subst e; simp
    ·rw [if_neg e]
     by_cases e2 : i < k
     ·rw [if_pos e2, if_pos (by omega)]
     ·rw [if_neg e2, if_neg (by omega)]
   case measure => simp [intOf]; omega
  ·go_wp2
   go_ret
   exact ⟨z.heap.size, rfl, hzs, HW.out.2.congr (fun i hi => by rw [if_pos (by omega)]), HW.out.1⟩
set_option maxHeartbeats 1000000 in
theorem each51_60 (w0 : World) (a : Option Addr) (N c : Nat) (F : Nat → Bool) (k1 k2 k3 : Value) (hN : N ≤ 10)
  (hf : ∀ (p : Nat) u, p < 2 ^ N → Below w0.heap.size w0 u → Calls Tryz.prog 60 #[.int .i64 p, k1, k2, k3] u fun e u' => e = .returned (.bool (F p)) ∧ Below u.heap.size u u') :
  Calls Tryz.prog 51 #[.agg #[.slice a N c], .func (.func 60) #[] #[k1, k2, k3]] w0 fun e w' => NewB w0 (2 ^ N) F e w' := by
 obtain ⟨n, hn⟩ : ∃ n, n = 2 ^ N := ⟨_, rfl⟩
 have hn1 : n ≤ 1024 := by rw [hn]; exact Nat.le_trans (Nat.pow_le_pow_right (by decide) hN) (by decide)
 have C58 := hid (count58 N a c (w0.alloc (.cells #[.slice a N c] 53)) hN)
 rw [← hn] at hf C58 ⊢
 clear hn hN
 have hmk := run_make_row' (P := Tryz.prog) 44 4 (.bool false) 1 Tryz.underlying44 Tryz.info4 rfl .i64 .i64 n (by omega) (by omega)
 have HF := hid hf
 have HB0 := hid (box_below w0 (.cells #[.slice a N c] 53))
 clear hf
 go_enter Tryz.func51, Tryz.ntmps51
 go_wp2_with fail
 refine C58.out.mono ?_
 rintro e z ⟨rfl, hbz⟩
 have HZ : Hid (Below w0.heap.size w0 z) := hid (HB0.out.trans (hbz.mono HB0.out.size))
 clear hbz C58 HB0
 have HS1 : Hid (Below w0.heap.size w0 (z.alloc (.cells (madeCells #[.bool false] n) 4)) ∧ (z.alloc (.cells (madeCells #[.bool false] n) 4)).rowIs z.heap.size 4 n (fun _ => .bool false)) :=
  hid ⟨HZ.out.alloc HZ.out.size _, World.rowIs_made z (.bool false) n 4⟩
 have hzs := HZ.out.size
 go_wp2
 clear hmk
 go_loopw [12] (fun i wr => ∃ k : Nat, k ≤ n ∧ i = .int .i64 k ∧ Hid (Below w0.heap.size w0 wr ∧ wr.rowIs z.heap.size 4 n (fun x => .bool (if x < k then F x else false)))) (fun i _ => n - (intOf i).toNat)
 case atStart => exact ⟨0, Nat.zero_le _, rfl, hid ⟨HS1.out.1, HS1.out.2.congr (fun i _ => by rw [if_neg (by omega)])⟩⟩
 case round =>
  obtain ⟨k, hk, rfl, HW⟩ := hrel
  by_cases hlt : k < n
  ·have C := hid (HF.out k wr hlt HW.out.1)
   go_wp2_with fail
   refine C.out.mono ?_
   rintro e w2 ⟨rfl, hb2⟩
   have hr2 : w2.rowIs z.heap.size 4 n (fun x => .bool (if x < k then F x else false)) := HW.out.2.of_block (hb2.block _ HW.out.2.lt)
   have hB2 : Below w0.heap.size w0 w2 := HW.out.1.trans (hb2.mono HW.out.1.size)
   have H2 := hid (And.intro hB2 hr2)
   have hc := hr2.cell hlt
   have hz := hr2.frozen k
   clear C hb2 hr2 hB2
   go_wp2
   go_roundw
   case rel =>
    refine ⟨k + 1, by omega, by go_num, hid ⟨H2.out.1.setCell hzs _, (H2.out.2.set k _).congr (fun i hi => ?_)⟩⟩
    by_cases e : i = k
    ·subst e; simp
    ·rw [if_neg e]
     by_cases e2 : i < k
     ·rw [if_pos e2, if_pos (by omega)]
     ·rw [if_neg e2, if_neg (by omega)]
   case measure => simp [intOf]; omega
  ·go_wp2
   go_ret
   exact ⟨z.heap.size, rfl, hzs, HW.out.2.congr (fun i hi => by rw [if_pos (by omega)]), HW.out.1⟩
end Go.Proofs.YtmdpbaobihdgkaaGreatDoor
