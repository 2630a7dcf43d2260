
import Derived.RangeFuncNested
import Derived.RangeFuncBound
import Derived.RangeFuncCalls
import Derived.RangeFuncLeaves
import Derived.Shelf.Abstract
import Derived.Shelf.RegionOpen
import Derived.OwnWalkIn
import Derived.TacticsInMore
import Derived.LoopNIn
import Derived.LoopIn
import Derived.Lib.SliceRun
import Derived.WalkSmall
import Derived.Deep.AppendLies
import Derived.Deep.RegionHeld3
import Derived.Deep.WholeRow
import Derived.Deep.MidRow
import Derived.Laws.Bits64b
import Derived.Lib.TrailingZeros
import Derived.Deep.OwnRows
import Derived.Maps.AppendAt
import Derived.Test.YtmdpbaobihdgkaaGreatDoorRows
import Derived.WalkKit
import Derived.WalkSpells
import Derived.WalkLawsBesides
import Derived.Deep.QuietTactic
import Derived.BigQuiet
import Derived.Below
import Derived.Deep.Heap
import Derived.Deep.RegionHeld
import Derived.Test.YtmdpbaobihdgkaaGreatDoorRwsJ
import Derived.Test.YtmdpbaobihdgkaaGreatDoorBaseJ
import Derived.Test.YtmdpbaobihdgkaaGreatDoorPshJ
import Derived.Test.YtmdpbaobihdgkaaGreatDoorTeaJ
import Derived.Test.YtmdpbaobihdgkaaGreatDoorWk
import Derived.Test.YtmdpbaobihdgkaaGreatDoorMkfJ
import Derived.Test.YtmdpbaobihdgkaaGreatDoorAAcf0
/- slices.Backward of spots: its contract. -/
namespace Go.Proofs.YtmdpbaobihdgkaaGreatDoor
open Go.RowKit Go.Shelf

attribute [local go_sem] Oper.semAt_some

/-- The numbers below n, falling. -/
def revF (n : Nat) : List (Fin n) := (List.finRange n).reverse
theorem revF_len (n : Nat) : (revF n).length = n := by simp [revF]
theorem revF_at {n k : Nat} (h : k < n) : (revF n)[k]? = some ⟨n - 1 - k, by omega⟩ := by
  unfold revF
  have h1 : n - 1 - k < (List.finRange n).length := by rw [List.length_finRange]; omega
  rw [List.getElem?_reverse (by simpa using h), List.length_finRange, List.getElem?_eq_getElem h1, List.getElem_finRange]
  rfl
theorem revF_succ {n k : Nat} (h : k < n) : (revF n).take (k + 1) = (revF n).take k ++ [⟨n - 1 - k, by omega⟩] := by
  rw [List.take_add_one, revF_at h]; rfl

/-- The spot with a number. -/
def gq (met : List (Nat × Nat)) (i : Nat) : Nat × Nat := met.getD i (0, 0)
abbrev spE (met : List (Nat × Nat)) (j : Fin met.length) : Array Value := #[.int .i64 ((j.1 : Nat) : Int), .agg #[.int .i64 ((gq met j.1).1 : Nat), .int .i64 ((gq met j.1).2 : Nat)]]

/-- Two blocks stay. -/
def a_Kb (b c : Nat) (W W' : World) : Prop := W'.heap[b]? = W.heap[b]? ∧ W'.heap[c]? = W.heap[c]?

set_option maxRecDepth 100000 in
set_option maxHeartbeats 2000000 in
theorem bwd_stops (n Bs mb mc : Nat) (met : List (Nat × Nat)) (w : World) (hl : met.length ≤ 122880) (ma : Option Addr) (hma : 0 < met.length → ma = some ⟨mb, 0, none⟩) (hB : Bs < w.heap.size) (hM : mb < w.heap.size)
    (hBs : w.cell? ⟨Bs, 0, none⟩ = some (.slice ma met.length mc))
    (hc : ∀ i, i < met.length → w.cell? ⟨mb, i * 2, none⟩ = some (.int .i64 ((gq met i).1 : Nat)) ∧ w.cell? ⟨mb, i * 2 + 1, none⟩ = some (.int .i64 ((gq met i).2 : Nat))) :
    SeqStopsK Fence.wide n Tryz.prog 106 #[.pointer (some ⟨Bs, 0, none⟩)] (spE met) (a_Kb Bs mb) (fun xs => xs = revF met.length) (fun pre => pre <+: revF met.length) met.length w := fun l J Jx W hW _ _ hY h0 => by
  refine callsIn_of_wp Tryz.func106 rfl trivial ?_ rfl
  simp only [Tryz.ntmps106, List.size_toArray, List.length_cons, List.length_nil, Nat.reduceAdd, Nat.reduceSub, Array.replicate_succ, Array.replicate_zero, List.push_toArray, List.append_toArray, List.nil_append, List.cons_append]
  have hBs' : W.cell? ⟨Bs, 0, none⟩ = some (.slice ma met.length mc) := below_cell' hW hB hBs
  have HC : Hid (∀ i, i < met.length → W.cell? ⟨mb, i * 2, none⟩ = some (.int .i64 ((gq met i).1 : Nat)) ∧ W.cell? ⟨mb, i * 2 + 1, none⟩ = some (.int .i64 ((gq met i).2 : Nat))) := hid (fun i hi => ⟨below_cell' hW hM (hc i hi).1, below_cell' hW hM (hc i hi).2⟩)
  have HY := hid hY
  clear hc hBs hW hY
  gi_wp2
  gi_loopw [3] (fun i wr => ∃ k : Nat, k ≤ met.length ∧ i = .int .i64 ((met.length : Int) - 1 - k) ∧ Hid (J ((revF met.length).take k) wr ∧ a_Kb Bs mb W wr)) (fun i _ => (intOf i + 1).toNat)
  case atStart => exact ⟨0, by omega, by simp, hid ⟨by simpa using h0, rfl, rfl⟩⟩
  case round =>
    obtain ⟨k, hk, rfl, H⟩ := hrel
    by_cases hlt : k < met.length
    · have hf : met.length - 1 - k < met.length := by omega
      obtain rfl := hma (by omega)
      obtain ⟨j, hj⟩ : ∃ j : Nat, met.length = k + 1 + j := ⟨met.length - 1 - k, by omega⟩
      have e1 : (met.length : Int) - 1 - k = (j : Int) := by omega
      obtain ⟨fn, tmps, assign, body, hy, hR⟩ := HY.out _ ⟨met.length - 1 - k, hf⟩ wr H.out.1 (by rw [List.length_take, revF_len]; omega)
      have e2 : met.length - 1 - k = j := by omega
      simp only [spE, e2] at hy
      have hb1 : wr.cell? ⟨Bs, 0, none⟩ = some (.slice (some ⟨mb, 0, none⟩) met.length mc) := (World.cell?_of_block (w := W) H.out.2.1).trans hBs'
      have hc1 := (World.cell?_of_block (w := W) (a := ⟨mb, j * 2, none⟩) H.out.2.2).trans (HC.out j (by omega)).1
      have hc2 := (World.cell?_of_block (w := W) (a := ⟨mb, j * 2 + 1, none⟩) H.out.2.2).trans (HC.out j (by omega)).2
      have HR := hid hR
      have hjl : j < met.length := by omega
      rw [e1]
      have HJ0 := hid hj
      clear hR e1 e2 hBs' hj
      generalize gq met j = q at hy hc1 hc2
      gi_wp2
      refine ⟨fun h => by simp [Fence.wide] at h, ?_⟩
      refine HR.out.mono ?_
      rintro e W3 (⟨rfl, hJ3, hk3⟩ | ⟨rfl, hJx3⟩)
      · have HJ := hid (And.intro hJ3 hk3)
        clear hJ3 hk3
        gi_wp2
        go_roundw
        case rel => exact ⟨k + 1, by omega, by have := HJ0.out; simp; omega, hid ⟨by rw [revF_succ hlt]; exact HJ.out.1, HJ.out.2.1.trans H.out.2.1, HJ.out.2.2.trans H.out.2.2⟩⟩
        case measure => simp [intOf]
      · gi_wp2
        refine bodyPost_ret (results_none rfl _ _ _) rfl ?_
        refine ⟨⟨_, rfl⟩, .inr ⟨_, ?_, hJx3⟩⟩
        rw [← revF_succ hlt]
        exact List.take_prefix _ _
    · obtain rfl : k = met.length := by omega
      have e1 : (met.length : Int) - 1 - (met.length : Int) = -1 := by omega
      rw [e1]
      gi_wp2
      go_end0
      refine ⟨⟨_, rfl⟩, .inl ⟨_, rfl, ?_⟩⟩
      have := H.out.1
      rwa [List.take_of_length_le (by rw [revF_len]; omega)] at this

theorem bwd71 (a : Option Addr) (n c : Nat) (w : World) : Calls Tryz.prog 77 #[.slice a n c] w fun e w' => e = .returned (.func (.func 106) #[] #[.pointer (some ⟨w.heap.size, 0, none⟩)]) ∧ w' = w.alloc (.cells #[.slice a n c] 116) := by
  have hmf : ∀ (fn : Fn) (first cap : Array Value) (w : World), (Instr.makeFunc fn first cap).run Tryz.prog w = .ok (.func fn first cap) w := fun _ _ _ _ => rfl
  go_enter Tryz.func77, Tryz.ntmps77
  go_wp2
  go_ret
  exact ⟨rfl, rfl⟩

end Go.Proofs.YtmdpbaobihdgkaaGreatDoor
