/- checkNodes. -/
import Derived.Deep.RegionHeld3
import Derived.Test.YthpbgfodejoecaaProc3
namespace Go.Proofs.Ythpbgfodejoecaa
open Go.RowKit

/-- The error of the first of n nodes that has one, or 0. -/
def nodesErr (M : Nat → ByteArray) (K : Nat → Int) : Nat → Int
  | 0 => 0
  | n + 1 => if nodesErr M K n = 0 then (if nameOk (M n) = true ∧ (1 ≤ K n ∧ K n ≤ 7) then (if fnd n M (M n) = -1 then 0 else 4) else 1) else nodesErr M K n

theorem nodesErr_stay {M : Nat → ByteArray} {K : Nat → Int} {k : Nat} (h : nodesErr M K k ≠ 0) : ∀ {n}, k ≤ n → nodesErr M K n = nodesErr M K k := by
  intro n hn
  induction n with
  | zero => have : k = 0 := by omega
            subst this; rfl
  | succ n ih =>
    by_cases e : k = n + 1
    · rw [e]
    · have i := ih (by omega)
      rw [nodesErr, if_neg (by rw [i]; exact h), i]

theorem nodesErr_next {M : Nat → ByteArray} {K : Nat → Int} {n : Nat} (h : nodesErr M K n = 0) : nodesErr M K (n + 1) = if nameOk (M n) = true ∧ (1 ≤ K n ∧ K n ≤ 7) then (if fnd n M (M n) = -1 then 0 else 4) else 1 := by
  rw [nodesErr, if_pos h]

theorem nodesErr_at {M : Nat → ByteArray} {K : Nat → Int} {n N : Nat} {x : Int} (h : nodesErr M K (n + 1) = x) (hx : x ≠ 0) (hn : n < N) : nodesErr M K N = x := by
  rw [nodesErr_stay (k := n + 1) (by rw [h]; exact hx) (by omega), h]

theorem below_drew_iff {B : Nat} {w w' : World} : Below B w w'.drew ↔ Below B w w' := ⟨fun h => ⟨h.os, h.tape, h.output, h.size, h.block⟩, fun h => ⟨h.os, h.tape, h.output, h.size, h.block⟩⟩

/-- The call of find, at a world behind W. -/
theorem find_at {W : World} {a : Option Addr} {N c : Nat} {M : Nat → ByteArray} {K : Nat → Int} {s : ByteArray} (hN : N ≤ 140737488355328) (h : Nds W a N M K) {w : World} (hb : Below W.heap.size W w) :
    Calls Try.prog 106 #[.slice a N c, .string s] w fun e w' => e = .returned (.int .i64 (fnd N M s)) ∧ Below W.heap.size W w' := by
  refine (find_any a N c M K s w hN (h.below hb)).mono ?_
  rintro e w' ⟨he, hb'⟩
  exact ⟨he, hb.trans (hb'.mono hb.size)⟩

theorem Nds.take {w : World} {a : Option Addr} {N k : Nat} {M : Nat → ByteArray} {K : Nat → Int} (h : Nds w a N M K) (hk : k ≤ N) : Nds w a k M K := by
  obtain ⟨b, o, ha, hc⟩ := h
  exact ⟨b, o, fun _ => ha (by omega), fun i hi => hc i (by omega)⟩

set_option maxHeartbeats 1000000 in
theorem checkNodes_any (a : Option Addr) (N c : Nat) (M : Nat → ByteArray) (K : Nat → Int) (w : World) (hN : N ≤ 140737488355328) (hNc : N ≤ c) (h : Nds w a N M K) :
    Calls Try.prog 77 #[.slice a N c] w fun e w' => e = .returned (.int .i64 (nodesErr M K N)) ∧ Below w.heap.size w w' := by
  have HN : Hid (Nds w a N M K) := h
  clear h
  go_enter Try.func77, Try.ntmps77
  go_wp2
  go_loopw [7] (fun i wr => ∃ k : Nat, k ≤ N ∧ i = .int .i64 k ∧ Hid (nodesErr M K k = 0) ∧ Hid (Below w.heap.size w wr)) (fun i _ => N - (intOf i).toNat)
  case atStart => exact ⟨0, Nat.zero_le _, rfl, hid rfl, Below.refl _ _⟩
  case round =>
    obtain ⟨k, hk, rfl, H0, HB⟩ := hrel
    by_cases hlt : k < N
    · obtain ⟨b, o, ha, hc⟩ := HN.out
      obtain rfl := ha (by omega)
      obtain ⟨h1, h2⟩ := Nds.at hc HB.out hlt
      have C1 : Hid (∀ u, Calls Try.prog 104 #[.string (M k)] u fun e w' => e = .returned (.bool (nameOk (M k))) ∧ w' = u) := isName_any (M k)
      have C2 : Hid (∀ u, Calls Try.prog 105 #[.int .i64 (K k)] u fun e w' => e = .returned (.bool (decide (1 ≤ K k ∧ K k ≤ 7))) ∧ w' = u) := isKind_any (K k)
      have HNx : Hid (nodesErr M K (k + 1) = if nameOk (M k) = true ∧ (1 ≤ K k ∧ K k ≤ 7) then (if fnd k M (M k) = -1 then 0 else 4) else 1) := nodesErr_next H0.out
      clear hc ha
      cases hn : nameOk (M k)
      · have HE : Hid (nodesErr M K N = 1) := nodesErr_at (by rw [HNx.out, hn]; simp) (by decide) hlt
        rw [hn] at C1
        clear hn HNx
        go_wp2_with fail
        refine (C1.out _).mono ?_
        rintro e w1 ⟨rfl, rfl⟩
        go_wp2
        go_ret
        exact ⟨ret_int HE.out.symm, HB.out.alloc HB.out.size _⟩
      · by_cases hk7 : 1 ≤ K k ∧ K k ≤ 7
        · rw [hn] at C1
          rw [decide_eq_true hk7] at C2
          have HNy : Hid (nodesErr M K (k + 1) = if fnd k M (M k) = -1 then 0 else 4) := by show _ = _; rw [HNx.out, if_pos ⟨hn, hk7⟩]
          clear hn hk7 HNx
          go_wp2_with fail
          refine (C1.out _).mono ?_
          rintro e w1 ⟨rfl, rfl⟩
          go_wp2_with fail
          refine (C2.out _).mono ?_
          rintro e w1 ⟨rfl, rfl⟩
          go_wp2
          have HNk : Hid (Nds (wr.alloc (.cells #[.string (M k), .int .i64 (K k)] 84)) (some ⟨b, o, none⟩) k M K) := ((HN.out.below HB.out).below (box_below _ _)).take hk
          have hkc : (k : Int) ≤ c := by omega
          have hcell : (wr.alloc (.cells #[.string (M k), .int .i64 (K k)] 84)).cell? ⟨wr.heap.size, 0, none⟩ = some (.string (M k)) := cell_of_alloc rfl
          have HBB : Below (wr.alloc (.cells #[.string (M k), .int .i64 (K k)] 84)).heap.size (wr.alloc (.cells #[.string (M k), .int .i64 (K k)] 84)) (wr.alloc (.cells #[.string (M k), .int .i64 (K k)] 84)) := Below.refl _ _
          generalize hW : wr.alloc (.cells #[.string (M k), .int .i64 (K k)] 84) = W at *
          have HBW : Hid (Below w.heap.size w W) := by show Below _ _ _; rw [← hW]; exact HB.out.alloc HB.out.size _
          by_cases hf : fnd k M (M k) = -1
          · have HE : Hid (nodesErr M K (k + 1) = 0) := by show _ = _; rw [HNy.out, if_pos hf]
            have hf' : (fnd k M (M k) != -1) = false := by rw [hf]; decide
            clear HNy hf
            go_region_held3 (fun w' => w'.cell? ⟨wr.heap.size, 0, none⟩ = some (.string (M k)) ∧ Below W.heap.size W w') (first | (simp [*, below_drew_iff]; done) | (exact ⟨by assumption, by assumption⟩))
              (first | (go_at_call 106; refine (find_at (by omega) HNk.out ?_).mono ?_; (exact below_drew_iff.2 (Below.refl _ _)); rintro e w2 ⟨rfl, hb2⟩; have hcell2 : w2.cell? ⟨wr.heap.size, 0, none⟩ = some (.string (M k)) := (hb2.cell (p := ⟨wr.heap.size, 0, none⟩) (World.block_lt_of_cell? _ _ hcell)).trans hcell))
            have HB2 : Hid (Below w.heap.size w w2) := HBW.out.trans (hb2.mono HBW.out.size)
            clear hb2 hcell2 HBB
            go_wp2
            go_roundw
            case rel => exact ⟨k + 1, by omega, by go_num, HE.out, HB2.out⟩
            case measure => simp [intOf]; omega
          · have HE : Hid (nodesErr M K N = 4) := nodesErr_at (by rw [HNy.out, if_neg hf]) (by decide) hlt
            have hf' : (fnd k M (M k) != -1) = true := by rw [bne_iff_ne]; exact hf
            clear HNy hf
            go_region_held3 (fun w' => w'.cell? ⟨wr.heap.size, 0, none⟩ = some (.string (M k)) ∧ Below W.heap.size W w') (first | (simp [*, below_drew_iff]; done) | (exact ⟨by assumption, by assumption⟩))
              (first | (go_at_call 106; refine (find_at (by omega) HNk.out ?_).mono ?_; (exact below_drew_iff.2 (Below.refl _ _)); rintro e w2 ⟨rfl, hb2⟩; have hcell2 : w2.cell? ⟨wr.heap.size, 0, none⟩ = some (.string (M k)) := (hb2.cell (p := ⟨wr.heap.size, 0, none⟩) (World.block_lt_of_cell? _ _ hcell)).trans hcell))
            have HB2 : Hid (Below w.heap.size w w2) := HBW.out.trans (hb2.mono HBW.out.size)
            clear hb2 hcell2 HBB
            go_wp2
            go_ret
            exact ⟨ret_int HE.out.symm, HB2.out⟩
        · have HE : Hid (nodesErr M K N = 1) := nodesErr_at (by rw [HNx.out, if_neg (fun hh => hk7 hh.2)]) (by decide) hlt
          rw [hn] at C1
          rw [decide_eq_false hk7] at C2
          clear hn HNx hk7
          go_wp2_with fail
          refine (C1.out _).mono ?_
          rintro e w1 ⟨rfl, rfl⟩
          go_wp2_with fail
          refine (C2.out _).mono ?_
          rintro e w1 ⟨rfl, rfl⟩
          go_wp2
          go_ret
          exact ⟨ret_int HE.out.symm, HB.out.alloc HB.out.size _⟩
    · obtain rfl : N = k := by omega
      go_wp2
      go_ret
      exact ⟨ret_int H0.out.symm, HB.out⟩

end Go.Proofs.Ythpbgfodejoecaa
