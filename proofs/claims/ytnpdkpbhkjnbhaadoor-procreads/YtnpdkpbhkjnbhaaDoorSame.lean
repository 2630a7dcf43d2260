/- SameProcess. -/
import Derived.Test.YtnpdkpbhkjnbhaaDoorProc7
namespace Go.Proofs.YtnpdkpbhkjnbhaaDoor
open Go.RowKit

set_option maxHeartbeats 1000000 in
theorem equalNd_any (a a' : Option Addr) (n c c' : Nat) (M : Nat → ByteArray) (K : Nat → Int) (w : World) (hn : n ≤ 140737488355328) (h : Nds w a n M K) (h' : Nds w a' n M K) :
    Calls Tryd.prog 26 #[.slice a n c, .slice a' n c'] w fun e w' => e = .returned (.bool true) ∧ Below w.heap.size w w' := by
  obtain ⟨b, o, ha, hc⟩ := h
  obtain ⟨b', o', ha', hc'⟩ := h'
  go_enter Tryd.func26, Tryd.ntmps26
  go_wp2
  go_loopw [13] (fun i wr => ∃ k : Nat, k ≤ n ∧ i = .int .i64 k ∧ ∃ q, wr = w.drewN q) (fun i _ => n - (intOf i).toNat)
  case atStart => exact ⟨0, Nat.zero_le _, rfl, 0, rfl⟩
  case round =>
    obtain ⟨k, hk, rfl, q, rfl⟩ := hrel
    by_cases hlt : k < n
    · obtain rfl := ha (by omega)
      obtain rfl := ha' (by omega)
      obtain ⟨h1, h2⟩ := hc k hlt
      obtain ⟨g1, g2⟩ := hc' k hlt
      have hzk : (k : Int) < n := by omega
      generalize M k = m at *
      generalize K k = κ at *
      clear hc hc' ha ha'
      go_wp2
      go_quiet (fail)
      go_wp2
      go_roundw
      case rel => exact ⟨k + 1, by omega, by go_num, _, rfl⟩
      case measure => simp [intOf]; omega
    · go_wp2
      go_ret
      exact ⟨rfl, below_drewn (Below.refl _ _) q⟩

set_option maxHeartbeats 1000000 in
theorem equalFl_any (a a' : Option Addr) (n c c' : Nat) (A B : Nat → Int) (w : World) (hn : n ≤ 140737488355328) (h : Fls w a n A B) (h' : Fls w a' n A B) :
    Calls Tryd.prog 27 #[.slice a n c, .slice a' n c'] w fun e w' => e = .returned (.bool true) ∧ Below w.heap.size w w' := by
  obtain ⟨b, o, ha, hc⟩ := h
  obtain ⟨b', o', ha', hc'⟩ := h'
  go_enter Tryd.func27, Tryd.ntmps27
  go_wp2
  go_loopw [13] (fun i wr => ∃ k : Nat, k ≤ n ∧ i = .int .i64 k ∧ ∃ q, wr = w.drewN q) (fun i _ => n - (intOf i).toNat)
  case atStart => exact ⟨0, Nat.zero_le _, rfl, 0, rfl⟩
  case round =>
    obtain ⟨k, hk, rfl, q, rfl⟩ := hrel
    by_cases hlt : k < n
    · obtain rfl := ha (by omega)
      obtain rfl := ha' (by omega)
      obtain ⟨h1, h2⟩ := hc k hlt
      obtain ⟨g1, g2⟩ := hc' k hlt
      have hzk : (k : Int) < n := by omega
      generalize A k = x at *
      generalize B k = y at *
      clear hc hc' ha ha'
      go_wp2
      go_quiet (fail)
      go_wp2
      go_roundw
      case rel => exact ⟨k + 1, by omega, by go_num, _, rfl⟩
      case measure => simp [intOf]; omega
    · go_wp2
      go_ret
      exact ⟨rfl, below_drewn (Below.refl _ _) q⟩

set_option maxHeartbeats 2000000 in
theorem sameProc_any (na fa na' fa' : Option Addr) (N nc F fc nc' fc' : Nat) (M : Nat → ByteArray) (K A B : Nat → Int) (w : World) (hN : N ≤ 140737488355328) (hF : F ≤ 140737488355328) (h1 : Nds w na N M K) (h2 : Nds w na' N M K) (h3 : Fls w fa F A B) (h4 : Fls w fa' F A B) :
    Calls Tryd.prog 11 #[.agg #[.slice na N nc, .slice fa F fc], .agg #[.slice na' N nc', .slice fa' F fc']] w fun e w' => e = .returned (.bool true) ∧ Below w.heap.size w w' := by
  obtain ⟨W, eW⟩ : ∃ v, v = (w.alloc (.cells #[.slice na N nc, .slice fa F fc] 25)).alloc (.cells #[.slice na' N nc', .slice fa' F fc'] 25) := ⟨_, rfl⟩
  have HW : Hid (Below w.heap.size w W ∧ W.cell? ⟨w.heap.size, 0, none⟩ = some (.slice na N nc) ∧ W.cell? ⟨w.heap.size, 1, none⟩ = some (.slice fa F fc) ∧ W.cell? ⟨w.heap.size + 1, 0, none⟩ = some (.slice na' N nc') ∧ W.cell? ⟨w.heap.size + 1, 1, none⟩ = some (.slice fa' F fc')) := by
    subst eW
    have e1 : (w.alloc (.cells #[.slice na N nc, .slice fa F fc] 25)).heap.size = w.heap.size + 1 := by simp
    have g0 : (w.alloc (.cells #[.slice na N nc, .slice fa F fc] 25)).cell? ⟨w.heap.size, 0, none⟩ = some (.slice na N nc) := cell_of_alloc rfl
    have g1 : (w.alloc (.cells #[.slice na N nc, .slice fa F fc] 25)).cell? ⟨w.heap.size, 1, none⟩ = some (.slice fa F fc) := cell_of_alloc rfl
    refine ⟨(box_below _ _).trans ((box_below _ _).mono (by simp)), ((box_below _ _).cell (p := ⟨w.heap.size, 0, none⟩) (World.block_lt_of_cell? _ _ g0)).trans g0, ((box_below _ _).cell (p := ⟨w.heap.size, 1, none⟩) (World.block_lt_of_cell? _ _ g1)).trans g1, ?_, ?_⟩
    · rw [← e1]; exact cell_of_alloc rfl
    · rw [← e1]; exact cell_of_alloc rfl
  have HWe : Hid ((w.alloc (.cells #[.slice na N nc, .slice fa F fc] 25)).alloc (.cells #[.slice na' N nc', .slice fa' F fc'] 25) = W) := eW.symm
  clear eW
  have hv := HW.out.2
  rw [← HWe.out] at hv
  obtain ⟨hv0, hv1, hv2, hv3⟩ := hv
  have C1 : Hid (Calls Tryd.prog 26 #[.slice na N nc, .slice na' N nc'] W fun e w' => e = .returned (.bool true) ∧ Below W.heap.size W w') := equalNd_any na na' N nc nc' M K W hN (h1.below HW.out.1) (h2.below HW.out.1)
  have C2 : Hid (∀ u, Below W.heap.size W u → Calls Tryd.prog 27 #[.slice fa F fc, .slice fa' F fc'] u fun e w' => e = .returned (.bool true) ∧ Below u.heap.size u w') := fun u hu => by
    have hu' : Below w.heap.size w u := HW.out.1.trans (hu.mono HW.out.1.size)
    exact equalFl_any fa fa' F fc fc' A B u hF (h3.below hu') (h4.below hu')
  clear h1 h2 h3 h4 hN hF
  go_enter Tryd.func11, Tryd.ntmps11
  go_wp2_with fail
  rw [HWe.out]
  refine C1.out.mono ?_
  rintro e w1 ⟨rfl, hb1⟩
  have HB1 : Hid (Below W.heap.size W w1) := hb1
  have k1 := (hb1.cell (p := ⟨w.heap.size, 1, none⟩) (World.block_lt_of_cell? _ _ HW.out.2.2.1)).trans HW.out.2.2.1
  have k3 := (hb1.cell (p := ⟨w.heap.size + 1, 1, none⟩) (World.block_lt_of_cell? _ _ HW.out.2.2.2.2)).trans HW.out.2.2.2.2
  clear hb1 C1 hv0 hv1 hv2 hv3
  go_wp2_with fail
  refine (C2.out w1 HB1.out).mono ?_
  rintro e w2 ⟨rfl, hb2⟩
  have HB2 : Hid (Below w.heap.size w w2) := HW.out.1.trans ((HB1.out.trans (hb2.mono HB1.out.size)).mono HW.out.1.size)
  clear hb2 C2
  go_wp2
  go_ret
  exact ⟨rfl, HB2.out⟩

end Go.Proofs.YtnpdkpbhkjnbhaaDoor
