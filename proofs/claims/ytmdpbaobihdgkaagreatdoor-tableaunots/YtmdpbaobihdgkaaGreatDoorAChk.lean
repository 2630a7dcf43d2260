
import Derived.Test.YtmdpbaobihdgkaaGreatDoorALstJ
/- Check of an automaton. -/
namespace Go.Proofs.YtmdpbaobihdgkaaGreatDoor
open Go.RowKit
theorem wrong1_any (x : Int) (b : Nat) (na : Option Addr) (G nc : Nat) (w : World) (h : w.cell? ⟨b, 1, none⟩ = some (.slice na G nc)) :
  Calls Tryz.prog 66 #[.int .i64 x, .pointer (some ⟨b, 0, none⟩)] w fun e w' => e = .returned (.bool (decide (x < 0 ∨ (G : Int) ≤ x))) ∧ w' = w := by
 by_cases h1 : x < 0
 ·have E : Hid (decide (x < 0 ∨ (G : Int) ≤ x) = true) := hid (decide_eq_true (Or.inl h1))
  go_enter Tryz.func66, Tryz.ntmps66
  go_wp2
  go_ret
  exact ⟨ret_bool E.out.symm, rfl⟩
 ·have E := hid (decide_eq_false h1)
  go_enter Tryz.func66, Tryz.ntmps66
  go_wp2
  go_ret
  refine ⟨ret_bool ?_, rfl⟩
  rw [E.out]
  simp
set_option maxHeartbeats 1000000 in
theorem idxI_any (a : Option Addr) (n c : Nat) (Z : Nat → Int) (b : Nat) (na : Option Addr) (G nc : Nat) (w : World) (hn : n ≤ 140737488355328) (hr : Row w a n Z) (h : w.cell? ⟨b, 1, none⟩ = some (.slice na G nc)) :
  Calls Tryz.prog 101 #[.slice a n c, .func (.func 66) #[] #[.pointer (some ⟨b, 0, none⟩)]] w fun e w' => (∃ r : Int, e = .returned (.int .i64 r) ∧ ((0 ≤ r ∧ allIn n Z G = false) ∨ (r = -1 ∧ allIn n Z G = true))) ∧ w' = w := by
 obtain ⟨rb, ro, ha, hc⟩ := hr
 have HC := hid hc
 clear hc
 go_enter Tryz.func101, Tryz.ntmps101
 go_wp2
 go_loop [8] (fun i => ∃ k : Nat, k ≤ n ∧ i = .int .i64 k ∧ Hid (∀ j, j < k → 0 ≤ Z j ∧ Z j < G)) (fun i => n - (intOf i).toNat)
 case atStart => exact ⟨0, by omega, rfl, hid (fun j hj => by omega)⟩
 case round =>
  obtain ⟨k, hk, rfl, H⟩ := hrel
  by_cases hlt : k < n
  ·obtain rfl := ha (by omega)
   have hck := HC.out k hlt
   have C := hid (wrong1_any (Z k) b na G nc w h)
   by_cases hw : Z k < 0 ∨ (G : Int) ≤ Z k
   ·have HW := hid hw
    rw [decide_eq_true hw] at C
    clear hw
    go_wp2_with fail
    refine C.out.mono ?_
    rintro e w' ⟨rfl, rfl⟩
    go_wp2
    go_ret
    exact ⟨⟨_, rfl, Or.inl ⟨by omega, allIn_no k hlt HW.out⟩⟩, rfl⟩
   ·have HW := hid hw
    rw [decide_eq_false hw] at C
    clear hw
    go_wp2_with fail
    refine C.out.mono ?_
    rintro e w' ⟨rfl, rfl⟩
    go_wp2
    go_round
    case rel => exact ⟨k + 1, by omega, by go_num, hid (snoc_all H.out (by have := HW.out; omega))⟩
    case measure => simp [intOf]; omega
  ·go_wp2
   go_ret
   exact ⟨⟨_, rfl, Or.inr ⟨rfl, allIn_yes (fun i hi => H.out i (by omega))⟩⟩, rfl⟩
theorem cfI_any (a : Option Addr) (n c : Nat) (Z : Nat → Int) (b : Nat) (na : Option Addr) (G nc : Nat) (w : World) (hn : n ≤ 140737488355328) (hr : Row w a n Z) (h : w.cell? ⟨b, 1, none⟩ = some (.slice na G nc)) :
  Calls Tryz.prog 65 #[.slice a n c, .func (.func 66) #[] #[.pointer (some ⟨b, 0, none⟩)]] w fun e w' => e = .returned (.bool (!allIn n Z G)) ∧ w' = w := by
 have C := hid (idxI_any a n c Z b na G nc w hn hr h)
 clear hr
 generalize allIn n Z G = q at *
 go_enter Tryz.func65, Tryz.ntmps65
 go_wp2_with fail
 refine C.out.mono ?_
 rintro e w1 ⟨⟨r, rfl, hr⟩, rfl⟩
 have HR := hid hr
 clear hr
 go_wp2
 go_ret
 refine ⟨ret_bool ?_, rfl⟩
 rcases HR.out with ⟨h1, rfl⟩ | ⟨rfl, rfl⟩
 ·simp [h1]
 ·rfl
theorem wrongL_any (a : Option Addr) (n c : Nat) (Z : Nat → Int) (b : Nat) (na : Option Addr) (G nc : Nat) (w : World) (hn : n ≤ 140737488355328) (hr : Row w a n Z) (h : w.cell? ⟨b, 1, none⟩ = some (.slice na G nc)) :
  Calls Tryz.prog 64 #[.slice a n c, .pointer (some ⟨b, 0, none⟩)] w fun e w' => e = .returned (.bool (!allIn n Z G)) ∧ w' = w := by
 have C := hid (cfI_any a n c Z b na G nc w hn hr h)
 have hmf : ∀ (fn : Fn) (first cap : Array Value) (w : World), (Instr.makeFunc fn first cap).run Tryz.prog w = .ok (.func fn first cap) w := fun _ _ _ _ => rfl
 clear hr
 generalize allIn n Z G = q at *
 go_enter Tryz.func64, Tryz.ntmps64
 go_wp2_with fail
 refine C.out.mono ?_
 rintro e w1 ⟨rfl, rfl⟩
 go_wp2
 go_ret
 exact ⟨rfl, rfl⟩
def okL (K : Nat) (FL : Nat → Nat) (FZ : Nat → Nat → Int) (G : Nat) : Bool := decide (∀ r, r < K → allIn (FL r) (FZ r) G = true)
theorem okL_no {K : Nat} {FL : Nat → Nat} {FZ : Nat → Nat → Int} {G : Nat} (k : Nat) (hk : k < K) (h : allIn (FL k) (FZ k) G = false) : okL K FL FZ G = false := by
 unfold okL
 rw [decide_eq_false_iff_not]
 intro hall
 have := hall k hk
 rw [h] at this
 cases this
theorem okL_yes {K : Nat} {FL : Nat → Nat} {FZ : Nat → Nat → Int} {G : Nat} (h : ∀ r, r < K → allIn (FL r) (FZ r) G = true) : okL K FL FZ G = true := by
 unfold okL
 rw [decide_eq_true_eq]
 exact h
theorem okL_all {K : Nat} {FL : Nat → Nat} {FZ : Nat → Nat → Int} {G : Nat} (h : okL K FL FZ G = true) : ∀ r, r < K → ∀ i, i < FL r → 0 ≤ FZ r i ∧ FZ r i < G := by
 unfold okL at h
 rw [decide_eq_true_eq] at h
 exact fun r hr => allIn_all (h r hr)
set_option maxHeartbeats 1000000 in
theorem idxL_any (fa : Option Addr) (K fc : Nat) (FL : Nat → Nat) (FZ : Nat → Nat → Int) (b : Nat) (na : Option Addr) (G nc : Nat) (w : World) (hK : K ≤ 140737488355328) (hL : ∀ r, r < K → FL r ≤ 140737488355328) (hr : Gr w fa K FL FZ) (h : w.cell? ⟨b, 1, none⟩ = some (.slice na G nc)) :
  Calls Tryz.prog 102 #[.slice fa K fc, .func (.func 64) #[] #[.pointer (some ⟨b, 0, none⟩)]] w fun e w' => (∃ r : Int, e = .returned (.int .i64 r) ∧ ((0 ≤ r ∧ okL K FL FZ G = false) ∨ (r = -1 ∧ okL K FL FZ G = true))) ∧ w' = w := by
 obtain ⟨rb, ro, ha, hc⟩ := hr
 have HC := hid hc
 have HL := hid hL
 clear hc hL
 go_enter Tryz.func102, Tryz.ntmps102
 go_wp2
 go_loop [8] (fun i => ∃ k : Nat, k ≤ K ∧ i = .int .i64 k ∧ Hid (∀ j, j < k → allIn (FL j) (FZ j) G = true)) (fun i => K - (intOf i).toNat)
 case atStart => exact ⟨0, by omega, rfl, hid (fun j hj => by omega)⟩
 case round =>
  obtain ⟨k, hk, rfl, H⟩ := hrel
  by_cases hlt : k < K
  ·obtain rfl := ha (by omega)
   obtain ⟨a, c, hck, hrow⟩ := HC.out k hlt
   have C := hid (wrongL_any a (FL k) c (FZ k) b na G nc w (HL.out k hlt) hrow h)
   clear hrow
   cases hw : allIn (FL k) (FZ k) G
   ·have HW := hid hw
    rw [hw] at C
    clear hw
    go_wp2_with fail
    refine C.out.mono ?_
    rintro e w' ⟨rfl, rfl⟩
    go_wp2
    go_ret
    exact ⟨⟨_, rfl, Or.inl ⟨by omega, okL_no k hlt HW.out⟩⟩, rfl⟩
   ·have HW := hid hw
    rw [hw] at C
    clear hw
    go_wp2_with fail
    refine C.out.mono ?_
    rintro e w' ⟨rfl, rfl⟩
    go_wp2
    go_round
    case rel => exact ⟨k + 1, by omega, by go_num, hid (snoc_all H.out HW.out)⟩
    case measure => simp [intOf]; omega
  ·go_wp2
   go_ret
   exact ⟨⟨_, rfl, Or.inr ⟨rfl, okL_yes (fun i hi => H.out i (by omega))⟩⟩, rfl⟩
theorem cfL_any (fa : Option Addr) (K fc : Nat) (FL : Nat → Nat) (FZ : Nat → Nat → Int) (b : Nat) (na : Option Addr) (G nc : Nat) (w : World) (hK : K ≤ 140737488355328) (hL : ∀ r, r < K → FL r ≤ 140737488355328) (hr : Gr w fa K FL FZ) (h : w.cell? ⟨b, 1, none⟩ = some (.slice na G nc)) :
  Calls Tryz.prog 67 #[.slice fa K fc, .func (.func 64) #[] #[.pointer (some ⟨b, 0, none⟩)]] w fun e w' => e = .returned (.bool (!okL K FL FZ G)) ∧ w' = w := by
 have C := hid (idxL_any fa K fc FL FZ b na G nc w hK hL hr h)
 clear hr hL
 generalize okL K FL FZ G = q at *
 go_enter Tryz.func67, Tryz.ntmps67
 go_wp2_with fail
 refine C.out.mono ?_
 rintro e w1 ⟨⟨r, rfl, hr⟩, rfl⟩
 have HR := hid hr
 clear hr
 go_wp2
 go_ret
 refine ⟨ret_bool ?_, rfl⟩
 rcases HR.out with ⟨h1, rfl⟩ | ⟨rfl, rfl⟩
 ·simp [h1]
 ·rfl
def chkA (A : Ax) : Int := if 2048 < A.G ∨ 80 < A.K then 2 else if A.M ≠ A.G ∨ A.O ≠ A.G then 1 else if allIn A.sn A.S A.G = true ∧ okL A.G A.L A.Z A.G = true ∧ okL A.K A.FL A.FZ A.G = true then 0 else 1
set_option maxHeartbeats 4000000 in
theorem chkA_any (A : Ax) (w : World) (h : Aw w A) : Calls Tryz.prog 23 #[A.val] w fun e w' => e = .returned (.int .i64 (chkA A)) ∧ Below w.heap.size w w' := by
 have H := hid h
 have hmf : ∀ (fn : Fn) (first cap : Array Value) (w : World), (Instr.makeFunc fn first cap).run Tryz.prog w = .ok (.func fn first cap) w := fun _ _ _ _ => rfl
 have g47 := h.g47
 have k47 := h.k47
 have m47 := h.m47
 have o47 := h.o47
 have s47 := h.s47
 clear h
 by_cases h1 : 2048 < A.G ∨ 80 < A.K
 ·have E : Hid (chkA A = 2) := hid (if_pos h1)
  obtain ⟨sa, sn, sc, na, G, nc, ma, M, mc, oa, O, oc, fa, K, fc, S, L, Z, Mu, No, FL, FZ⟩ := A
  dsimp only [Ax.val] at *
  by_cases h2 : 2048 < G
  ·have h3 : (2048 : Int) < G := by omega
   go_enter Tryz.func23, Tryz.ntmps23
   go_wp2
   go_ret
   exact ⟨ret_int E.out.symm, box_below _ _⟩
  ·have h3 : ¬ (2048 : Int) < G := by omega
   have h4 : (80 : Int) < K := by omega
   go_enter Tryz.func23, Tryz.ntmps23
   go_wp2
   go_ret
   exact ⟨ret_int E.out.symm, box_below _ _⟩
 by_cases h2 : A.M ≠ A.G ∨ A.O ≠ A.G
 ·have E : Hid (chkA A = 1) := hid ((if_neg h1).trans (if_pos h2))
  obtain ⟨sa, sn, sc, na, G, nc, ma, M, mc, oa, O, oc, fa, K, fc, S, L, Z, Mu, No, FL, FZ⟩ := A
  dsimp only [Ax.val] at *
  have h3 : ¬ (2048 : Int) < G := by omega
  have h4 : ¬ (80 : Int) < K := by omega
  by_cases h5 : M = G
  ·have h6 : ((M : Int) != (G : Int)) = false := by rw [h5]; simp
   have h7 : ((O : Int) != (G : Int)) = true := by simp; omega
   clear h1 h2 h5
   go_enter Tryz.func23, Tryz.ntmps23
   go_wp2
   go_ret
   exact ⟨ret_int E.out.symm, box_below _ _⟩
  ·have h6 : ((M : Int) != (G : Int)) = true := by simp; omega
   clear h1 h2 h5
   go_enter Tryz.func23, Tryz.ntmps23
   go_wp2
   go_ret
   exact ⟨ret_int E.out.symm, box_below _ _⟩
 ·have hM : A.M = A.G := by omega
  have hO : A.O = A.G := by omega
  have E : Hid (chkA A = if allIn A.sn A.S A.G = true ∧ okL A.G A.L A.Z A.G = true ∧ okL A.K A.FL A.FZ A.G = true then 0 else 1) := hid ((if_neg h1).trans (if_neg h2))
  have hG : ¬ 2048 < A.G := by omega
  have hK : ¬ 80 < A.K := by omega
  clear h1 h2
  have C1 := hid (fun (z : World) (hz : Below w.heap.size w z) (b : Nat) (hb : z.cell? ⟨b, 1, none⟩ = some (.slice A.na A.G A.nc)) => wrongL_any A.sa A.sn A.sc A.S b A.na A.G A.nc z s47 ((H.out.below hz).start) hb)
  have C2 := hid (fun (z : World) (hz : Below w.heap.size w z) (b : Nat) (hb : z.cell? ⟨b, 1, none⟩ = some (.slice A.na A.G A.nc)) => cfL_any A.na A.G A.nc A.L A.Z b A.na A.G A.nc z g47 H.out.l47 ((H.out.below hz).next) hb)
  have C3 := hid (fun (z : World) (hz : Below w.heap.size w z) (b : Nat) (hb : z.cell? ⟨b, 1, none⟩ = some (.slice A.na A.G A.nc)) => cfL_any A.fa A.K A.fc A.FL A.FZ b A.na A.G A.nc z k47 H.out.f47 ((H.out.below hz).fair) hb)
  generalize allIn A.sn A.S A.G = q1 at *
  generalize okL A.G A.L A.Z A.G = q2 at *
  generalize okL A.K A.FL A.FZ A.G = q3 at *
  clear H
  obtain ⟨sa, sn, sc, na, G, nc, ma, M, mc, oa, O, oc, fa, K, fc, S, L, Z, Mu, No, FL, FZ⟩ := A
  dsimp only [Ax.val] at *
  subst hM
  subst hO
  have h3 : ¬ (2048 : Int) < O := by omega
  have h4 : ¬ (80 : Int) < K := by omega
  have hbx := box_below w (.cells #[.slice sa sn sc, .slice na O nc, .slice ma O mc, .slice oa O oc, .slice fa K fc] 32)
  have hcb : (w.alloc (.cells #[.slice sa sn sc, .slice na O nc, .slice ma O mc, .slice oa O oc, .slice fa K fc] 32)).cell? ⟨w.heap.size, 1, none⟩ = some (.slice na O nc) := cell_of_alloc rfl
  have D1 := hid (C1.out _ hbx _ hcb)
  have D2 := hid (C2.out _ hbx _ hcb)
  have D3 := hid (C3.out _ hbx _ hcb)
  clear C1 C2 C3 hcb
  have HBX := hid hbx
  clear hbx
  cases q1
  ·rw [if_neg (by simp)] at E
   go_enter Tryz.func23, Tryz.ntmps23
   go_wp2_with fail
   refine D1.out.mono ?_
   rintro e w1 ⟨rfl, rfl⟩
   go_wp2
   go_ret
   exact ⟨ret_int E.out.symm, HBX.out⟩
  ·cases q2
   ·rw [if_neg (by simp)] at E
    go_enter Tryz.func23, Tryz.ntmps23
    go_wp2_with fail
    refine D1.out.mono ?_
    rintro e w1 ⟨rfl, rfl⟩
    go_wp2_with fail
    refine D2.out.mono ?_
    rintro e w1 ⟨rfl, rfl⟩
    go_wp2
    go_ret
    exact ⟨ret_int E.out.symm, HBX.out⟩
   ·go_enter Tryz.func23, Tryz.ntmps23
    go_wp2_with fail
    refine D1.out.mono ?_
    rintro e w1 ⟨rfl, rfl⟩
    go_wp2_with fail
    refine D2.out.mono ?_
    rintro e w1 ⟨rfl, rfl⟩
    go_wp2_with fail
    refine D3.out.mono ?_
    rintro e w1 ⟨rfl, rfl⟩
    cases q3
    ·rw [if_neg (by simp)] at E
     go_wp2
     go_ret
     exact ⟨ret_int E.out.symm, HBX.out⟩
    ·rw [if_pos (by simp)] at E
     go_wp2
     go_ret
     exact ⟨ret_int E.out.symm, HBX.out⟩
end Go.Proofs.YtmdpbaobihdgkaaGreatDoor
