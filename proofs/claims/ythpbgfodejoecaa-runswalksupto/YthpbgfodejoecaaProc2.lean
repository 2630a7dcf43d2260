/- hasOneStart, flowsHaveEnds, countsFit, checkNodes. -/
import Derived.Test.YthpbgfodejoecaaProc
namespace Go.Proofs.Ythpbgfodejoecaa
open Go.RowKit

/-- How many of the first n numbers are x. -/
def tally (X : Nat → Int) (x : Int) : Nat → Nat
  | 0 => 0
  | n + 1 => if X n = x then tally X x n + 1 else tally X x n

theorem tally_le (X : Nat → Int) (x : Int) : ∀ n, tally X x n ≤ n
  | 0 => Nat.le_refl _
  | n + 1 => by
    have := tally_le X x n
    unfold tally
    split <;> omega

theorem tally_hit {X : Nat → Int} {x : Int} {n : Nat} (h : X n = x) : tally X x (n + 1) = tally X x n + 1 := by simp [tally, h]
theorem tally_miss {X : Nat → Int} {x : Int} {n : Nat} (h : X n ≠ x) : tally X x (n + 1) = tally X x n := by simp [tally, h]

set_option maxHeartbeats 400000 in
theorem hasOneStart_any (a : Option Addr) (N c : Nat) (M : Nat → ByteArray) (K : Nat → Int) (w : World) (hN : N ≤ 140737488355328) (h : Nds w a N M K) :
    Calls Try.prog 79 #[.slice a N c] w fun e w' => e = .returned (.bool (decide (tally K 1 N = 1))) ∧ Below w.heap.size w w' := by
  obtain ⟨b, o, ha, hc⟩ := h
  have HC : Hid (∀ i, i < N → w.cell? ⟨b, o + i * 2, none⟩ = some (.string (M i)) ∧ w.cell? ⟨b, o + i * 2 + 1, none⟩ = some (.int .i64 (K i))) := hc
  clear hc
  go_enter Try.func79, Try.ntmps79
  go_wp2
  go_loopw [3, 8] (fun s i wr => ∃ k : Nat, k ≤ N ∧ i = .int .i64 k ∧ s = .int .i64 (tally K 1 k : Nat) ∧ Hid (Below w.heap.size w wr)) (fun _ i _ => N - (intOf i).toNat)
  case atStart => exact ⟨0, Nat.zero_le _, rfl, rfl, Below.refl _ _⟩
  case round =>
    obtain ⟨k, hk, rfl, rfl, HB⟩ := hrel
    have ht := tally_le K 1 k
    by_cases hlt : k < N
    · obtain rfl := ha (by omega)
      obtain ⟨h1, h2⟩ := Nds.at HC.out HB.out hlt
      by_cases hb : K k = 1
      · have HE : Hid (tally K 1 (k + 1) = tally K 1 k + 1) := tally_hit hb
        have hb' : (K k == 1) = true := beq_iff_eq.2 hb
        clear hb
        go_wp2
        go_roundw
        case rel => exact ⟨k + 1, by omega, by go_num, by rw [HE.out]; go_num, HB.out.alloc HB.out.size _⟩
        case measure => simp [intOf]; omega
      · have HE : Hid (tally K 1 (k + 1) = tally K 1 k) := tally_miss hb
        have hb' : (K k == 1) = false := beq_eq_false_iff_ne.2 hb
        clear hb
        go_wp2
        go_roundw
        case rel => exact ⟨k + 1, by omega, by go_num, by rw [HE.out], HB.out.alloc HB.out.size _⟩
        case measure => simp [intOf]; omega
    · obtain rfl : N = k := by omega
      by_cases hb : tally K 1 N = 1
      · have hb' : ((tally K 1 N : Nat) : Int) = 1 := by omega
        have HE : Hid (decide (tally K 1 N = 1) = true) := decide_eq_true hb
        have hb2 : (((tally K 1 N : Nat) : Int) == 1) = true := beq_iff_eq.2 hb'
        clear hb hb' ht
        go_wp2
        go_ret
        exact ⟨ret_bool HE.out.symm, HB.out⟩
      · have HE : Hid (decide (tally K 1 N = 1) = false) := decide_eq_false hb
        have hb2 : (((tally K 1 N : Nat) : Int) == 1) = false := beq_eq_false_iff_ne.2 (by omega)
        clear hb ht
        go_wp2
        go_ret
        exact ⟨ret_bool HE.out.symm, HB.out⟩

theorem cell_of_cells {w : World} {g i : Nat} {cur : Array Value} {t : TypeId} {z : Nat × Nat} {x : Value} (hg : w.heap[g]? = some (.cells cur t z)) (hx : cur[i]? = some x) : w.cell? ⟨g, i, none⟩ = some x := by
  simp [World.cell?, hg, hx]

theorem cell_of_alloc {w : World} {c : Array Value} {t : TypeId} {i : Nat} {v : Value} (h : c[i]? = some v) : (w.alloc (.cells c t)).cell? ⟨w.heap.size, i, none⟩ = some v := by
  have hg : (w.alloc (.cells c t)).heap[w.heap.size]? = some (.cells c t) := Go.Deep.blk_alloc_new _ _
  exact cell_of_cells hg h

/-- What was there, and what was laid last, behind a call. -/
theorem keep_alloc {w w1 : World} {o : Obj} {p : Addr} {v : Value} (hb : Below (w.alloc o).heap.size (w.alloc o) w1) (h : w.cell? p = some v) : w1.cell? p = some v := by
  have hlt := World.block_lt_of_cell? _ _ h
  have e : (w.alloc o).cell? p = w.cell? p := World.cell?_of_block (w := w) (Go.Deep.blk_alloc_lt _ _ _ hlt)
  rw [hb.cell (p := p) (by simp; omega), e]
  exact h

theorem new_alloc {w w1 : World} {c : Array Value} {t : TypeId} {i : Nat} {v : Value} (hb : Below (w.alloc (.cells c t)).heap.size (w.alloc (.cells c t)) w1) (h : c[i]? = some v) : w1.cell? ⟨w.heap.size, i, none⟩ = some v := by
  rw [hb.cell (p := ⟨w.heap.size, i, none⟩) (by simp)]
  exact cell_of_alloc h

/-- Do all flows have nodes at their ends? -/
def endsOk (N F : Nat) (A B : Nat → Int) : Bool := decide (∀ i, i < F → (0 ≤ A i ∧ A i < N) ∧ (0 ≤ B i ∧ B i < N))

theorem endsOk_no {N F : Nat} {A B : Nat → Int} (k : Nat) (hk : k < F) (h : ¬ ((0 ≤ A k ∧ A k < N) ∧ (0 ≤ B k ∧ B k < N))) : endsOk N F A B = false := by
  unfold endsOk
  rw [decide_eq_false_iff_not]
  exact fun hh => h (hh k hk)

theorem endsOk_yes {N F : Nat} {A B : Nat → Int} (h : ∀ i, i < F → (0 ≤ A i ∧ A i < N) ∧ (0 ≤ B i ∧ B i < N)) : endsOk N F A B = true := by
  unfold endsOk
  rw [decide_eq_true_eq]
  exact h

set_option maxHeartbeats 400000 in
theorem flowsHaveEnds_any (na fa : Option Addr) (N nc F fc : Nat) (A B : Nat → Int) (w : World) (hF : F ≤ 140737488355328) (h : Fls w fa F A B) :
    Calls Try.prog 78 #[.agg #[.slice na N nc, .slice fa F fc]] w fun e w' => e = .returned (.bool (endsOk N F A B)) ∧ Below w.heap.size w w' := by
  obtain ⟨b, o, ha, hc⟩ := h
  have HC : Hid (∀ i, i < F → w.cell? ⟨b, o + i * 2, none⟩ = some (.int .i64 (A i)) ∧ w.cell? ⟨b, o + i * 2 + 1, none⟩ = some (.int .i64 (B i))) := hc
  clear hc
  go_enter Try.func78, Try.ntmps78
  go_wp2
  go_loopw [8] (fun i wr => ∃ k : Nat, k ≤ F ∧ i = .int .i64 k ∧ Hid (∀ j, j < k → (0 ≤ A j ∧ A j < N) ∧ (0 ≤ B j ∧ B j < N)) ∧ Hid (Below (w.heap.size + 1) (w.alloc (.cells #[.slice na N nc, .slice fa F fc] 25)) wr)) (fun i _ => F - (intOf i).toNat)
  case atStart => exact ⟨0, Nat.zero_le _, rfl, hid (fun j hj => absurd hj (Nat.not_lt_zero _)), Below.refl _ _⟩
  case round =>
    obtain ⟨k, hk, rfl, HJ, HB1⟩ := hrel
    have HB : Hid (Below w.heap.size w wr) := (box_below _ _).trans (HB1.out.mono (by omega))
    by_cases hlt : k < F
    · obtain rfl := ha (by omega)
      obtain ⟨h1, h2⟩ := Fls.at HC.out HB.out hlt
      have hp0 : wr.cell? ⟨w.heap.size, 0, none⟩ = some (.slice na N nc) := by rw [HB1.out.cell (p := ⟨w.heap.size, 0, none⟩) (by show w.heap.size < w.heap.size + 1; omega)]; simp
      have hp1 : wr.cell? ⟨w.heap.size, 1, none⟩ = some (.slice (some ⟨b, o, none⟩) F fc) := by rw [HB1.out.cell (p := ⟨w.heap.size, 1, none⟩) (by show w.heap.size < w.heap.size + 1; omega)]; simp
      have hsz : w.heap.size < wr.heap.size := by have := HB1.out.size; simp at this; omega
      have C1 := isNode_any na (some ⟨b, o, none⟩) N nc F fc (A k) (wr.alloc (.cells #[.int .i64 (A k), .int .i64 (B k)] 86))
      by_cases hA : 0 ≤ A k ∧ A k < N
      · have HA : Hid (0 ≤ A k ∧ A k < N) := hA
        rw [decide_eq_true hA] at C1
        have HC1 : Hid (Calls Try.prog 107 #[.agg #[.slice na N nc, .slice (some ⟨b, o, none⟩) F fc], .int .i64 (A k)] (wr.alloc (.cells #[.int .i64 (A k), .int .i64 (B k)] 86)) fun e w' => e = .returned (.bool true) ∧ Below (wr.alloc (.cells #[.int .i64 (A k), .int .i64 (B k)] 86)).heap.size (wr.alloc (.cells #[.int .i64 (A k), .int .i64 (B k)] 86)) w') := C1
        clear C1 hA
        go_wp2_with fail
        refine HC1.out.mono ?_
        rintro e w1 ⟨rfl, hb1⟩
        have HB2 : Hid (Below (w.heap.size + 1) (w.alloc (.cells #[.slice na N nc, .slice (some ⟨b, o, none⟩) F fc] 25)) w1) := (HB1.out.alloc (by omega) _).trans (hb1.mono (by simp; omega))
        have hq0 := keep_alloc hb1 hp0
        have hq1 := keep_alloc hb1 hp1
        have hq2 : w1.cell? ⟨wr.heap.size, 1, none⟩ = some (.int .i64 (B k)) := new_alloc hb1 rfl
        have C2 := isNode_any na (some ⟨b, o, none⟩) N nc F fc (B k) w1
        clear hb1 HC1 h1 h2 hp0 hp1
        by_cases hB : 0 ≤ B k ∧ B k < N
        · have HBk : Hid (0 ≤ B k ∧ B k < N) := hB
          rw [decide_eq_true hB] at C2
          have HC2 : Hid (Calls Try.prog 107 #[.agg #[.slice na N nc, .slice (some ⟨b, o, none⟩) F fc], .int .i64 (B k)] w1 fun e w' => e = .returned (.bool true) ∧ Below w1.heap.size w1 w') := C2
          clear C2 hB
          go_wp2_with fail
          refine HC2.out.mono ?_
          rintro e w2 ⟨rfl, hb2⟩
          have HB3 : Hid (Below (w.heap.size + 1) (w.alloc (.cells #[.slice na N nc, .slice (some ⟨b, o, none⟩) F fc] 25)) w2) := HB2.out.trans (hb2.mono (by have := HB2.out.size; simp at this; omega))
          clear hb2 HC2
          go_wp2
          go_roundw
          case rel => exact ⟨k + 1, by omega, by go_num, hid (snoc_all HJ.out ⟨HA.out, HBk.out⟩), HB3.out⟩
          case measure => simp [intOf]; omega
        · have HBk : Hid (¬ (0 ≤ B k ∧ B k < N)) := hB
          rw [decide_eq_false hB] at C2
          have HC2 : Hid (Calls Try.prog 107 #[.agg #[.slice na N nc, .slice (some ⟨b, o, none⟩) F fc], .int .i64 (B k)] w1 fun e w' => e = .returned (.bool false) ∧ Below w1.heap.size w1 w') := C2
          clear C2 hB
          go_wp2_with fail
          refine HC2.out.mono ?_
          rintro e w2 ⟨rfl, hb2⟩
          have HB3 : Hid (Below w.heap.size w w2) := (box_below _ _).trans ((HB2.out.mono (by omega)).trans (hb2.mono (by have := HB2.out.size; simp at this; omega)))
          clear hb2 HC2
          go_wp2
          go_ret
          exact ⟨ret_bool (endsOk_no k hlt (fun hh => HBk.out hh.2)).symm, HB3.out⟩
      · have HA : Hid (¬ (0 ≤ A k ∧ A k < N)) := hA
        rw [decide_eq_false hA] at C1
        have HC1 : Hid (Calls Try.prog 107 #[.agg #[.slice na N nc, .slice (some ⟨b, o, none⟩) F fc], .int .i64 (A k)] (wr.alloc (.cells #[.int .i64 (A k), .int .i64 (B k)] 86)) fun e w' => e = .returned (.bool false) ∧ Below (wr.alloc (.cells #[.int .i64 (A k), .int .i64 (B k)] 86)).heap.size (wr.alloc (.cells #[.int .i64 (A k), .int .i64 (B k)] 86)) w') := C1
        clear C1 hA
        go_wp2_with fail
        refine HC1.out.mono ?_
        rintro e w1 ⟨rfl, hb1⟩
        have HB2 : Hid (Below w.heap.size w w1) := (HB.out.alloc HB.out.size _).trans (hb1.mono (by simp; omega))
        clear hb1 HC1
        go_wp2
        go_ret
        exact ⟨ret_bool (endsOk_no k hlt (fun hh => HA.out hh.1)).symm, HB2.out⟩
    · go_wp2
      go_ret
      exact ⟨ret_bool (endsOk_yes (fun i hi => HJ.out i (by omega))).symm, HB.out⟩

/-- May a node of that kind have so many flows in and out? -/
def fitOk (k : Int) (i o : Nat) : Bool :=
  if k = 1 then decide (i = 0 ∧ o = 1) else if k = 2 ∨ k = 3 then decide (1 ≤ i ∧ o = 0) else if k = 4 then decide (1 ≤ i ∧ o = 1) else if k = 5 ∨ k = 6 then decide (1 ≤ i ∧ 1 ≤ o) else if k = 7 then decide (1 ≤ i ∧ 1 ≤ o ∧ o ≤ 4) else false

set_option maxHeartbeats 1000000 in
theorem countsFit_any (k : Int) (i o : Nat) (w : World) (hi : i ≤ 1000) (ho : o ≤ 1000) :
    Calls Try.prog 108 #[.int .i64 k, .int .i64 i, .int .i64 o] w fun e w' => e = .returned (.bool (fitOk k i o)) ∧ w' = w := by
  by_cases h1 : k = 1
  · subst h1
    go_enter Try.func108, Try.ntmps108
    go_wp2
    all_goals (go_ret; refine ⟨ret_bool ?_, rfl⟩; rw [Bool.eq_iff_iff]; simp [fitOk] <;> omega)
  by_cases h2 : k = 2
  · subst h2
    go_enter Try.func108, Try.ntmps108
    go_wp2
    all_goals (go_ret; refine ⟨ret_bool ?_, rfl⟩; rw [Bool.eq_iff_iff]; simp [fitOk] <;> omega)
  by_cases h3 : k = 3
  · subst h3
    go_enter Try.func108, Try.ntmps108
    go_wp2
    all_goals (go_ret; refine ⟨ret_bool ?_, rfl⟩; rw [Bool.eq_iff_iff]; simp [fitOk] <;> omega)
  by_cases h4 : k = 4
  · subst h4
    go_enter Try.func108, Try.ntmps108
    go_wp2
    all_goals (go_ret; refine ⟨ret_bool ?_, rfl⟩; rw [Bool.eq_iff_iff]; simp [fitOk] <;> omega)
  by_cases h5 : k = 5
  · subst h5
    go_enter Try.func108, Try.ntmps108
    go_wp2
    all_goals (go_ret; refine ⟨ret_bool ?_, rfl⟩; rw [Bool.eq_iff_iff]; simp [fitOk] <;> omega)
  by_cases h6 : k = 6
  · subst h6
    go_enter Try.func108, Try.ntmps108
    go_wp2
    all_goals (go_ret; refine ⟨ret_bool ?_, rfl⟩; rw [Bool.eq_iff_iff]; simp [fitOk] <;> omega)
  by_cases h7 : k = 7
  · subst h7
    go_enter Try.func108, Try.ntmps108
    go_wp2
    all_goals (go_ret; refine ⟨ret_bool ?_, rfl⟩; rw [Bool.eq_iff_iff]; simp [fitOk] <;> omega)
  have b1 : (k == 1) = false := beq_eq_false_iff_ne.2 h1
  have b2 : (k == 2) = false := beq_eq_false_iff_ne.2 h2
  have b3 : (k == 3) = false := beq_eq_false_iff_ne.2 h3
  have b4 : (k == 4) = false := beq_eq_false_iff_ne.2 h4
  have b5 : (k == 5) = false := beq_eq_false_iff_ne.2 h5
  have b6 : (k == 6) = false := beq_eq_false_iff_ne.2 h6
  have b7 : (k == 7) = false := beq_eq_false_iff_ne.2 h7
  have HE : Hid (fitOk k i o = false) := by show fitOk k i o = false; simp [fitOk, h1, h2, h3, h4, h5, h6, h7]
  clear h1 h2 h3 h4 h5 h6 h7
  go_enter Try.func108, Try.ntmps108
  go_wp2
  go_ret
  exact ⟨ret_bool HE.out.symm, rfl⟩

end Go.Proofs.Ythpbgfodejoecaa
