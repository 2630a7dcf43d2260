/- Nodes and flows in memory; isKind, isNode, find, isName. hasOneStart, flowsHaveEnds, countsFit, checkNodes. flowsFit; the first start; a look for a false. -/
import Derived.Test.YtjenkhphngiphaaDist2J
namespace Go.Proofs.Ytjenkhphngiphaa
open Go.RowKit

/-- N nodes lie at a: their names, their kinds. -/
def Nds (w : World) (a : Option Addr) (N : Nat) (M : Nat → ByteArray) (K : Nat → Int) : Prop :=
  ∃ b o, (0 < N → a = some ⟨b, o, none⟩) ∧ ∀ i, i < N → w.cell? ⟨b, o + i * 2, none⟩ = some (.string (M i)) ∧ w.cell? ⟨b, o + i * 2 + 1, none⟩ = some (.int .i64 (K i))

/-- F flows lie at a: whence, whither. -/
def Fls (w : World) (a : Option Addr) (F : Nat) (A B : Nat → Int) : Prop :=
  ∃ b o, (0 < F → a = some ⟨b, o, none⟩) ∧ ∀ i, i < F → w.cell? ⟨b, o + i * 2, none⟩ = some (.int .i64 (A i)) ∧ w.cell? ⟨b, o + i * 2 + 1, none⟩ = some (.int .i64 (B i))

theorem isKind_any (k : Int) (w : World) : Calls Try.prog 96 #[.int .i64 k] w fun e w' => e = .returned (.bool (decide (1 ≤ k ∧ k ≤ 7))) ∧ w' = w := by
  by_cases h1 : 1 ≤ k
  · by_cases h2 : k ≤ 7
    · have e : decide (1 ≤ k ∧ k ≤ 7) = true := by simp [h1, h2]
      rw [e]
      clear e
      go_enter Try.func96, Try.ntmps96
      go_wp2
      go_ret
      exact ⟨rfl, rfl⟩
    · have e : decide (1 ≤ k ∧ k ≤ 7) = false := by simp [h1, h2]
      rw [e]
      clear e
      go_enter Try.func96, Try.ntmps96
      go_wp2
      go_ret
      exact ⟨rfl, rfl⟩
  · have e : decide (1 ≤ k ∧ k ≤ 7) = false := by simp [h1]
    rw [e]
    clear e
    go_enter Try.func96, Try.ntmps96
    go_wp2
    go_ret
    exact ⟨rfl, rfl⟩

theorem box_below (w : World) (o : Obj) : Below w.heap.size w (w.alloc o) := (Below.refl _ _).alloc (Nat.le_refl _) _

theorem isNode_any (na fa : Option Addr) (N nc F fc : Nat) (x : Int) (w : World) :
    Calls Try.prog 98 #[.agg #[.slice na N nc, .slice fa F fc], .int .i64 x] w fun e w' => e = .returned (.bool (decide (0 ≤ x ∧ x < N))) ∧ Below w.heap.size w w' := by
  by_cases h1 : 0 ≤ x
  · by_cases h2 : x < N
    · have e : decide (0 ≤ x ∧ x < N) = true := by simp [h1, h2]
      rw [e]
      clear e
      go_enter Try.func98, Try.ntmps98
      go_wp2
      go_ret
      exact ⟨rfl, box_below _ _⟩
    · have e : decide (0 ≤ x ∧ x < N) = false := by simp [h2]
      rw [e]
      clear e
      go_enter Try.func98, Try.ntmps98
      go_wp2
      go_ret
      exact ⟨rfl, box_below _ _⟩
  · have e : decide (0 ≤ x ∧ x < N) = false := by simp [h1]
    rw [e]
    clear e
    go_enter Try.func98, Try.ntmps98
    go_wp2
    go_ret
    exact ⟨rfl, box_below _ _⟩

/-- The number of the first of N names that is s, or -1. -/
def fnd (N : Nat) (M : Nat → ByteArray) (s : ByteArray) : Int :=
  match (List.range N).find? (fun i => (M i).toList == s.toList) with
  | some i => (i : Int)
  | none => -1

theorem fnd_hit {N k : Nat} {M : Nat → ByteArray} {s : ByteArray} (hk : k < N) (h : ((M k).toList == s.toList) = true) (hj : ∀ j, j < k → ((M j).toList == s.toList) = false) : fnd N M s = k := by
  have : (List.range N).find? (fun i => (M i).toList == s.toList) = some k := List.find?_range_eq_some.2 ⟨h, List.mem_range.2 hk, fun j h1 => by rw [hj j h1]; rfl⟩
  unfold fnd
  rw [this]

theorem fnd_none {N : Nat} {M : Nat → ByteArray} {s : ByteArray} (hj : ∀ j, j < N → ((M j).toList == s.toList) = false) : fnd N M s = -1 := by
  have : (List.range N).find? (fun i => (M i).toList == s.toList) = none := List.find?_range_eq_none.2 (fun j h1 => by rw [hj j h1]; rfl)
  unfold fnd
  rw [this]

theorem Nds.at {w wr : World} {b o : Nat} {N : Nat} {M : Nat → ByteArray} {K : Nat → Int} (hc : ∀ i, i < N → w.cell? ⟨b, o + i * 2, none⟩ = some (.string (M i)) ∧ w.cell? ⟨b, o + i * 2 + 1, none⟩ = some (.int .i64 (K i))) (hb : Below w.heap.size w wr) {k : Nat} (hk : k < N) :
    wr.cell? ⟨b, o + k * 2, none⟩ = some (.string (M k)) ∧ wr.cell? ⟨b, o + k * 2 + 1, none⟩ = some (.int .i64 (K k)) := by
  rw [hb.cell (p := ⟨b, o + k * 2, none⟩) (World.block_lt_of_cell? _ _ (hc k hk).1), hb.cell (p := ⟨b, o + k * 2 + 1, none⟩) (World.block_lt_of_cell? _ _ (hc k hk).2)]
  exact hc k hk

theorem Fls.at {w wr : World} {b o : Nat} {F : Nat} {A B : Nat → Int} (hc : ∀ i, i < F → w.cell? ⟨b, o + i * 2, none⟩ = some (.int .i64 (A i)) ∧ w.cell? ⟨b, o + i * 2 + 1, none⟩ = some (.int .i64 (B i))) (hb : Below w.heap.size w wr) {k : Nat} (hk : k < F) :
    wr.cell? ⟨b, o + k * 2, none⟩ = some (.int .i64 (A k)) ∧ wr.cell? ⟨b, o + k * 2 + 1, none⟩ = some (.int .i64 (B k)) := by
  rw [hb.cell (p := ⟨b, o + k * 2, none⟩) (World.block_lt_of_cell? _ _ (hc k hk).1), hb.cell (p := ⟨b, o + k * 2 + 1, none⟩) (World.block_lt_of_cell? _ _ (hc k hk).2)]
  exact hc k hk

theorem Nds.below {w w' : World} {a : Option Addr} {N : Nat} {M : Nat → ByteArray} {K : Nat → Int} (h : Nds w a N M K) (hb : Below w.heap.size w w') : Nds w' a N M K := by
  obtain ⟨b, o, ha, hc⟩ := h
  exact ⟨b, o, ha, fun i hi => Nds.at hc hb hi⟩

theorem Fls.below {w w' : World} {a : Option Addr} {F : Nat} {A B : Nat → Int} (h : Fls w a F A B) (hb : Below w.heap.size w w') : Fls w' a F A B := by
  obtain ⟨b, o, ha, hc⟩ := h
  exact ⟨b, o, ha, fun i hi => Fls.at hc hb hi⟩

theorem Below.size' {w wr : World} (h : Below w.heap.size w wr) : w.heap.size ≤ wr.heap.size := h.size

set_option maxHeartbeats 400000 in
theorem find_any (a : Option Addr) (N c : Nat) (M : Nat → ByteArray) (K : Nat → Int) (s : ByteArray) (w : World) (hN : N ≤ 140737488355328) (h : Nds w a N M K) :
    Calls Try.prog 97 #[.slice a N c, .string s] w fun e w' => e = .returned (.int .i64 (fnd N M s)) ∧ Below w.heap.size w w' := by
  obtain ⟨b, o, ha, hc⟩ := h
  have HC : Hid (∀ i, i < N → w.cell? ⟨b, o + i * 2, none⟩ = some (.string (M i)) ∧ w.cell? ⟨b, o + i * 2 + 1, none⟩ = some (.int .i64 (K i))) := hc
  clear hc
  go_enter Try.func97, Try.ntmps97
  go_wp2
  go_loopw [9] (fun i wr => ∃ k : Nat, k ≤ N ∧ i = .int .i64 k ∧ Hid (∀ j, j < k → ((M j).toList == s.toList) = false) ∧ Hid (Below w.heap.size w wr)) (fun i _ => N - (intOf i).toNat)
  case atStart => exact ⟨0, Nat.zero_le _, rfl, hid (fun j hj => absurd hj (Nat.not_lt_zero _)), Below.refl _ _⟩
  case round =>
    obtain ⟨k, hk, rfl, HJ, HB⟩ := hrel
    by_cases hlt : k < N
    · obtain rfl := ha (by omega)
      obtain ⟨h1, h2⟩ := Nds.at HC.out HB.out hlt
      cases hb : ((M k).toList == s.toList)
      · have HE : Hid (((M k).toList == s.toList) = false) := hb
        go_wp2
        go_roundw
        case rel => exact ⟨k + 1, by omega, by go_num, hid (snoc_all HJ.out HE.out), HB.out.alloc HB.out.size _⟩
        case measure => simp [intOf]; omega
      · have HE : Hid (((M k).toList == s.toList) = true) := hb
        go_wp2
        go_ret
        exact ⟨ret_int (fnd_hit hlt HE.out HJ.out).symm, HB.out.alloc HB.out.size _⟩
    · go_wp2
      go_ret
      exact ⟨ret_int (fnd_none (fun j hj => HJ.out j (by omega))).symm, HB.out⟩

/-- All its bytes are letters a to z. -/
def letters (s : ByteArray) : Prop := ∀ k (h : k < s.size), 97 ≤ (s[k].toNat : Int) ∧ (s[k].toNat : Int) ≤ 122


def lettersDec (s : ByteArray) : Decidable (letters s) := by unfold letters; infer_instance

/-- A NAME. -/
def nameOk (s : ByteArray) : Bool :=
  decide (1 ≤ s.size) && decide (s.size ≤ 8) && @decide (letters s) (lettersDec s) && !(s.toList == [116, 114, 117, 101]) && !(s.toList == [102, 97, 108, 115, 101]) && !(s.toList == [115, 105, 108, 101, 110, 116])

theorem nameOk_short {s : ByteArray} (h : ¬ 1 ≤ s.size) : nameOk s = false := by simp [nameOk, h]
theorem nameOk_long {s : ByteArray} (h : ¬ s.size ≤ 8) : nameOk s = false := by simp [nameOk, h]
theorem nameOk_sign {s : ByteArray} (k : Nat) (hk : k < s.size) (h : ¬ (97 ≤ (s[k].toNat : Int) ∧ (s[k].toNat : Int) ≤ 122)) : nameOk s = false := by
  have : ¬ letters s := fun hl => h (hl k hk)
  simp [nameOk, this]

theorem nameOk_rest {s : ByteArray} (h1 : 1 ≤ s.size) (h2 : s.size ≤ 8) (h3 : letters s) : nameOk s = (!(s.toList == [116, 114, 117, 101]) && !(s.toList == [102, 97, 108, 115, 101]) && !(s.toList == [115, 105, 108, 101, 110, 116])) := by
  simp [nameOk, h1, h2, h3, Bool.and_assoc]

set_option maxHeartbeats 400000 in
theorem isName_any (s : ByteArray) (w : World) :
    Calls Try.prog 95 #[.string s] w fun e w' => e = .returned (.bool (nameOk s)) ∧ w' = w := by
  by_cases h1 : 1 ≤ s.size
  · by_cases h2 : s.size ≤ 8
    · go_enter Try.func95, Try.ntmps95
      go_wp2
      go_loop [14] (fun i => ∃ k : Nat, k ≤ s.size ∧ i = .int .i64 k ∧ Hid (∀ j (h : j < s.size), j < k → 97 ≤ (s[j].toNat : Int) ∧ (s[j].toNat : Int) ≤ 122)) (fun i => s.size - (intOf i).toNat)
      case atStart => exact ⟨0, Nat.zero_le _, rfl, hid (fun j _ hj => absurd hj (Nat.not_lt_zero _))⟩
      case round =>
        obtain ⟨k, hk, rfl, HJ⟩ := hrel
        by_cases hlt : k < s.size
        · by_cases h3 : (s[k].toNat : Int) < 97
          · go_wp2
            go_ret
            exact ⟨ret_bool (nameOk_sign k hlt (by omega)).symm, rfl⟩
          · by_cases h4 : 122 < (s[k].toNat : Int)
            · go_wp2
              go_ret
              exact ⟨ret_bool (nameOk_sign k hlt (by omega)).symm, rfl⟩
            · have H3 : Hid (97 ≤ (s[k].toNat : Int) ∧ (s[k].toNat : Int) ≤ 122) := ⟨by omega, by omega⟩
              go_wp2
              go_round
              case rel =>
                refine ⟨k + 1, by omega, by go_num, hid (fun j h hj => ?_)⟩
                by_cases e : j = k
                · subst e; exact H3.out
                · exact HJ.out j h (by omega)
              case measure => simp [intOf]; omega
        · have HL : Hid (nameOk s = (!(s.toList == [116, 114, 117, 101]) && !(s.toList == [102, 97, 108, 115, 101]) && !(s.toList == [115, 105, 108, 101, 110, 116]))) := nameOk_rest h1 h2 (fun j h => HJ.out j h (by omega))
          cases c1 : (s.toList == [116, 114, 117, 101])
          · cases c2 : (s.toList == [102, 97, 108, 115, 101])
            · go_wp2
              go_ret
              exact ⟨ret_bool (by rw [HL.out, c1, c2]; rfl), rfl⟩
            · go_wp2
              go_ret
              exact ⟨ret_bool (by rw [HL.out, c1, c2]; rfl), rfl⟩
          · go_wp2
            go_ret
            exact ⟨ret_bool (by rw [HL.out, c1]; rfl), rfl⟩
    · have e := nameOk_long h2
      rw [e]
      clear e
      go_enter Try.func95, Try.ntmps95
      go_wp2
      go_ret
      exact ⟨rfl, rfl⟩
  · have e := nameOk_short h1
    rw [e]
    clear e
    go_enter Try.func95, Try.ntmps95
    go_wp2
    go_ret
    exact ⟨rfl, rfl⟩

end Go.Proofs.Ytjenkhphngiphaa

namespace Go.Proofs.Ytjenkhphngiphaa
open Go.RowKit

/-- How many of the first n numbers are x. -/
def tally (X : Nat → Int) (x : Int) : Nat → Nat
  | 0 => 0
  | n + 1 => if X n = x then tally X x n + 1 else tally X x n

theorem tally_le (X : Nat → Int) (x : Int) : ∀ n, tally X x n ≤ n
  | 0 => Nat.le_refl _
  | n + 1 => by
    have := tally_le X x n
    unfold tally
    split <;> omega

theorem tally_hit {X : Nat → Int} {x : Int} {n : Nat} (h : X n = x) : tally X x (n + 1) = tally X x n + 1 := by simp [tally, h]
theorem tally_miss {X : Nat → Int} {x : Int} {n : Nat} (h : X n ≠ x) : tally X x (n + 1) = tally X x n := by simp [tally, h]

set_option maxHeartbeats 400000 in
theorem hasOneStart_any (a : Option Addr) (N c : Nat) (M : Nat → ByteArray) (K : Nat → Int) (w : World) (hN : N ≤ 140737488355328) (h : Nds w a N M K) :
    Calls Try.prog 72 #[.slice a N c] w fun e w' => e = .returned (.bool (decide (tally K 1 N = 1))) ∧ Below w.heap.size w w' := by
  obtain ⟨b, o, ha, hc⟩ := h
  have HC : Hid (∀ i, i < N → w.cell? ⟨b, o + i * 2, none⟩ = some (.string (M i)) ∧ w.cell? ⟨b, o + i * 2 + 1, none⟩ = some (.int .i64 (K i))) := hc
  clear hc
  go_enter Try.func72, Try.ntmps72
  go_wp2
  go_loopw [3, 8] (fun s i wr => ∃ k : Nat, k ≤ N ∧ i = .int .i64 k ∧ s = .int .i64 (tally K 1 k : Nat) ∧ Hid (Below w.heap.size w wr)) (fun _ i _ => N - (intOf i).toNat)
  case atStart => exact ⟨0, Nat.zero_le _, rfl, rfl, Below.refl _ _⟩
  case round =>
    obtain ⟨k, hk, rfl, rfl, HB⟩ := hrel
    have ht := tally_le K 1 k
    by_cases hlt : k < N
    · obtain rfl := ha (by omega)
      obtain ⟨h1, h2⟩ := Nds.at HC.out HB.out hlt
      by_cases hb : K k = 1
      · have HE : Hid (tally K 1 (k + 1) = tally K 1 k + 1) := tally_hit hb
        have hb' : (K k == 1) = true := beq_iff_eq.2 hb
        clear hb
        go_wp2
        go_roundw
        case rel => exact ⟨k + 1, by omega, by go_num, by rw [HE.out]; go_num, HB.out.alloc HB.out.size _⟩
        case measure => simp [intOf]; omega
      · have HE : Hid (tally K 1 (k + 1) = tally K 1 k) := tally_miss hb
        have hb' : (K k == 1) = false := beq_eq_false_iff_ne.2 hb
        clear hb
        go_wp2
        go_roundw
        case rel => exact ⟨k + 1, by omega, by go_num, by rw [HE.out], HB.out.alloc HB.out.size _⟩
        case measure => simp [intOf]; omega
    · obtain rfl : N = k := by omega
      by_cases hb : tally K 1 N = 1
      · have hb' : ((tally K 1 N : Nat) : Int) = 1 := by omega
        have HE : Hid (decide (tally K 1 N = 1) = true) := decide_eq_true hb
        have hb2 : (((tally K 1 N : Nat) : Int) == 1) = true := beq_iff_eq.2 hb'
        clear hb hb' ht
        go_wp2
        go_ret
        exact ⟨ret_bool HE.out.symm, HB.out⟩
      · have HE : Hid (decide (tally K 1 N = 1) = false) := decide_eq_false hb
        have hb2 : (((tally K 1 N : Nat) : Int) == 1) = false := beq_eq_false_iff_ne.2 (by omega)
        clear hb ht
        go_wp2
        go_ret
        exact ⟨ret_bool HE.out.symm, HB.out⟩

theorem cell_of_cells {w : World} {g i : Nat} {cur : Array Value} {t : TypeId} {z : Nat × Nat} {x : Value} (hg : w.heap[g]? = some (.cells cur t z)) (hx : cur[i]? = some x) : w.cell? ⟨g, i, none⟩ = some x := by
  simp [World.cell?, hg, hx]

theorem cell_of_alloc {w : World} {c : Array Value} {t : TypeId} {i : Nat} {v : Value} (h : c[i]? = some v) : (w.alloc (.cells c t)).cell? ⟨w.heap.size, i, none⟩ = some v := by
  have hg : (w.alloc (.cells c t)).heap[w.heap.size]? = some (.cells c t) := Go.Deep.blk_alloc_new _ _
  exact cell_of_cells hg h

/-- What was there, and what was laid last, behind a call. -/
theorem keep_alloc {w w1 : World} {o : Obj} {p : Addr} {v : Value} (hb : Below (w.alloc o).heap.size (w.alloc o) w1) (h : w.cell? p = some v) : w1.cell? p = some v := by
  have hlt := World.block_lt_of_cell? _ _ h
  have e : (w.alloc o).cell? p = w.cell? p := World.cell?_of_block (w := w) (Go.Deep.blk_alloc_lt _ _ _ hlt)
  rw [hb.cell (p := p) (by simp; omega), e]
  exact h

theorem new_alloc {w w1 : World} {c : Array Value} {t : TypeId} {i : Nat} {v : Value} (hb : Below (w.alloc (.cells c t)).heap.size (w.alloc (.cells c t)) w1) (h : c[i]? = some v) : w1.cell? ⟨w.heap.size, i, none⟩ = some v := by
  rw [hb.cell (p := ⟨w.heap.size, i, none⟩) (by simp)]
  exact cell_of_alloc h

/-- Do all flows have nodes at their ends? -/
def endsOk (N F : Nat) (A B : Nat → Int) : Bool := decide (∀ i, i < F → (0 ≤ A i ∧ A i < N) ∧ (0 ≤ B i ∧ B i < N))

theorem endsOk_no {N F : Nat} {A B : Nat → Int} (k : Nat) (hk : k < F) (h : ¬ ((0 ≤ A k ∧ A k < N) ∧ (0 ≤ B k ∧ B k < N))) : endsOk N F A B = false := by
  unfold endsOk
  rw [decide_eq_false_iff_not]
  exact fun hh => h (hh k hk)

theorem endsOk_yes {N F : Nat} {A B : Nat → Int} (h : ∀ i, i < F → (0 ≤ A i ∧ A i < N) ∧ (0 ≤ B i ∧ B i < N)) : endsOk N F A B = true := by
  unfold endsOk
  rw [decide_eq_true_eq]
  exact h

set_option maxHeartbeats 400000 in
theorem flowsHaveEnds_any (na fa : Option Addr) (N nc F fc : Nat) (A B : Nat → Int) (w : World) (hF : F ≤ 140737488355328) (h : Fls w fa F A B) :
    Calls Try.prog 71 #[.agg #[.slice na N nc, .slice fa F fc]] w fun e w' => e = .returned (.bool (endsOk N F A B)) ∧ Below w.heap.size w w' := by
  obtain ⟨b, o, ha, hc⟩ := h
  have HC : Hid (∀ i, i < F → w.cell? ⟨b, o + i * 2, none⟩ = some (.int .i64 (A i)) ∧ w.cell? ⟨b, o + i * 2 + 1, none⟩ = some (.int .i64 (B i))) := hc
  clear hc
  go_enter Try.func71, Try.ntmps71
  go_wp2
  go_loopw [8] (fun i wr => ∃ k : Nat, k ≤ F ∧ i = .int .i64 k ∧ Hid (∀ j, j < k → (0 ≤ A j ∧ A j < N) ∧ (0 ≤ B j ∧ B j < N)) ∧ Hid (Below (w.heap.size + 1) (w.alloc (.cells #[.slice na N nc, .slice fa F fc] 25)) wr)) (fun i _ => F - (intOf i).toNat)
  case atStart => exact ⟨0, Nat.zero_le _, rfl, hid (fun j hj => absurd hj (Nat.not_lt_zero _)), Below.refl _ _⟩
  case round =>
    obtain ⟨k, hk, rfl, HJ, HB1⟩ := hrel
    have HB : Hid (Below w.heap.size w wr) := (box_below _ _).trans (HB1.out.mono (by omega))
    by_cases hlt : k < F
    · obtain rfl := ha (by omega)
      obtain ⟨h1, h2⟩ := Fls.at HC.out HB.out hlt
      have hp0 : wr.cell? ⟨w.heap.size, 0, none⟩ = some (.slice na N nc) := by rw [HB1.out.cell (p := ⟨w.heap.size, 0, none⟩) (by show w.heap.size < w.heap.size + 1; omega)]; simp
      have hp1 : wr.cell? ⟨w.heap.size, 1, none⟩ = some (.slice (some ⟨b, o, none⟩) F fc) := by rw [HB1.out.cell (p := ⟨w.heap.size, 1, none⟩) (by show w.heap.size < w.heap.size + 1; omega)]; simp
      have hsz : w.heap.size < wr.heap.size := by have := HB1.out.size; simp at this; omega
      have C1 := isNode_any na (some ⟨b, o, none⟩) N nc F fc (A k) (wr.alloc (.cells #[.int .i64 (A k), .int .i64 (B k)] 83))
      by_cases hA : 0 ≤ A k ∧ A k < N
      · have HA : Hid (0 ≤ A k ∧ A k < N) := hA
        rw [decide_eq_true hA] at C1
        have HC1 : Hid (Calls Try.prog 98 #[.agg #[.slice na N nc, .slice (some ⟨b, o, none⟩) F fc], .int .i64 (A k)] (wr.alloc (.cells #[.int .i64 (A k), .int .i64 (B k)] 83)) fun e w' => e = .returned (.bool true) ∧ Below (wr.alloc (.cells #[.int .i64 (A k), .int .i64 (B k)] 83)).heap.size (wr.alloc (.cells #[.int .i64 (A k), .int .i64 (B k)] 83)) w') := C1
        clear C1 hA
        go_wp2_with fail
        refine HC1.out.mono ?_
        rintro e w1 ⟨rfl, hb1⟩
        have HB2 : Hid (Below (w.heap.size + 1) (w.alloc (.cells #[.slice na N nc, .slice (some ⟨b, o, none⟩) F fc] 25)) w1) := (HB1.out.alloc (by omega) _).trans (hb1.mono (by simp; omega))
        have hq0 := keep_alloc hb1 hp0
        have hq1 := keep_alloc hb1 hp1
        have hq2 : w1.cell? ⟨wr.heap.size, 1, none⟩ = some (.int .i64 (B k)) := new_alloc hb1 rfl
        have C2 := isNode_any na (some ⟨b, o, none⟩) N nc F fc (B k) w1
        clear hb1 HC1 h1 h2 hp0 hp1
        by_cases hB : 0 ≤ B k ∧ B k < N
        · have HBk : Hid (0 ≤ B k ∧ B k < N) := hB
          rw [decide_eq_true hB] at C2
          have HC2 : Hid (Calls Try.prog 98 #[.agg #[.slice na N nc, .slice (some ⟨b, o, none⟩) F fc], .int .i64 (B k)] w1 fun e w' => e = .returned (.bool true) ∧ Below w1.heap.size w1 w') := C2
          clear C2 hB
          go_wp2_with fail
          refine HC2.out.mono ?_
          rintro e w2 ⟨rfl, hb2⟩
          have HB3 : Hid (Below (w.heap.size + 1) (w.alloc (.cells #[.slice na N nc, .slice (some ⟨b, o, none⟩) F fc] 25)) w2) := HB2.out.trans (hb2.mono (by have := HB2.out.size; simp at this; omega))
          clear hb2 HC2
          go_wp2
          go_roundw
          case rel => exact ⟨k + 1, by omega, by go_num, hid (snoc_all HJ.out ⟨HA.out, HBk.out⟩), HB3.out⟩
          case measure => simp [intOf]; omega
        · have HBk : Hid (¬ (0 ≤ B k ∧ B k < N)) := hB
          rw [decide_eq_false hB] at C2
          have HC2 : Hid (Calls Try.prog 98 #[.agg #[.slice na N nc, .slice (some ⟨b, o, none⟩) F fc], .int .i64 (B k)] w1 fun e w' => e = .returned (.bool false) ∧ Below w1.heap.size w1 w') := C2
          clear C2 hB
          go_wp2_with fail
          refine HC2.out.mono ?_
          rintro e w2 ⟨rfl, hb2⟩
          have HB3 : Hid (Below w.heap.size w w2) := (box_below _ _).trans ((HB2.out.mono (by omega)).trans (hb2.mono (by have := HB2.out.size; simp at this; omega)))
          clear hb2 HC2
          go_wp2
          go_ret
          exact ⟨ret_bool (endsOk_no k hlt (fun hh => HBk.out hh.2)).symm, HB3.out⟩
      · have HA : Hid (¬ (0 ≤ A k ∧ A k < N)) := hA
        rw [decide_eq_false hA] at C1
        have HC1 : Hid (Calls Try.prog 98 #[.agg #[.slice na N nc, .slice (some ⟨b, o, none⟩) F fc], .int .i64 (A k)] (wr.alloc (.cells #[.int .i64 (A k), .int .i64 (B k)] 83)) fun e w' => e = .returned (.bool false) ∧ Below (wr.alloc (.cells #[.int .i64 (A k), .int .i64 (B k)] 83)).heap.size (wr.alloc (.cells #[.int .i64 (A k), .int .i64 (B k)] 83)) w') := C1
        clear C1 hA
        go_wp2_with fail
        refine HC1.out.mono ?_
        rintro e w1 ⟨rfl, hb1⟩
        have HB2 : Hid (Below w.heap.size w w1) := (HB.out.alloc HB.out.size _).trans (hb1.mono (by simp; omega))
        clear hb1 HC1
        go_wp2
        go_ret
        exact ⟨ret_bool (endsOk_no k hlt (fun hh => HA.out hh.1)).symm, HB2.out⟩
    · go_wp2
      go_ret
      exact ⟨ret_bool (endsOk_yes (fun i hi => HJ.out i (by omega))).symm, HB.out⟩

/-- May a node of that kind have so many flows in and out? -/
def fitOk (k : Int) (i o : Nat) : Bool :=
  if k = 1 then decide (i = 0 ∧ o = 1) else if k = 2 ∨ k = 3 then decide (1 ≤ i ∧ o = 0) else if k = 4 then decide (1 ≤ i ∧ o = 1) else if k = 5 ∨ k = 6 then decide (1 ≤ i ∧ 1 ≤ o) else if k = 7 then decide (1 ≤ i ∧ 1 ≤ o ∧ o ≤ 4) else false

set_option maxHeartbeats 1000000 in
theorem countsFit_any (k : Int) (i o : Nat) (w : World) (hi : i ≤ 1000) (ho : o ≤ 1000) :
    Calls Try.prog 99 #[.int .i64 k, .int .i64 i, .int .i64 o] w fun e w' => e = .returned (.bool (fitOk k i o)) ∧ w' = w := by
  by_cases h1 : k = 1
  · subst h1
    go_enter Try.func99, Try.ntmps99
    go_wp2
    all_goals (go_ret; refine ⟨ret_bool ?_, rfl⟩; rw [Bool.eq_iff_iff]; simp [fitOk] <;> omega)
  by_cases h2 : k = 2
  · subst h2
    go_enter Try.func99, Try.ntmps99
    go_wp2
    all_goals (go_ret; refine ⟨ret_bool ?_, rfl⟩; rw [Bool.eq_iff_iff]; simp [fitOk] <;> omega)
  by_cases h3 : k = 3
  · subst h3
    go_enter Try.func99, Try.ntmps99
    go_wp2
    all_goals (go_ret; refine ⟨ret_bool ?_, rfl⟩; rw [Bool.eq_iff_iff]; simp [fitOk] <;> omega)
  by_cases h4 : k = 4
  · subst h4
    go_enter Try.func99, Try.ntmps99
    go_wp2
    all_goals (go_ret; refine ⟨ret_bool ?_, rfl⟩; rw [Bool.eq_iff_iff]; simp [fitOk] <;> omega)
  by_cases h5 : k = 5
  · subst h5
    go_enter Try.func99, Try.ntmps99
    go_wp2
    all_goals (go_ret; refine ⟨ret_bool ?_, rfl⟩; rw [Bool.eq_iff_iff]; simp [fitOk] <;> omega)
  by_cases h6 : k = 6
  · subst h6
    go_enter Try.func99, Try.ntmps99
    go_wp2
    all_goals (go_ret; refine ⟨ret_bool ?_, rfl⟩; rw [Bool.eq_iff_iff]; simp [fitOk] <;> omega)
  by_cases h7 : k = 7
  · subst h7
    go_enter Try.func99, Try.ntmps99
    go_wp2
    all_goals (go_ret; refine ⟨ret_bool ?_, rfl⟩; rw [Bool.eq_iff_iff]; simp [fitOk] <;> omega)
  have b1 : (k == 1) = false := beq_eq_false_iff_ne.2 h1
  have b2 : (k == 2) = false := beq_eq_false_iff_ne.2 h2
  have b3 : (k == 3) = false := beq_eq_false_iff_ne.2 h3
  have b4 : (k == 4) = false := beq_eq_false_iff_ne.2 h4
  have b5 : (k == 5) = false := beq_eq_false_iff_ne.2 h5
  have b6 : (k == 6) = false := beq_eq_false_iff_ne.2 h6
  have b7 : (k == 7) = false := beq_eq_false_iff_ne.2 h7
  have HE : Hid (fitOk k i o = false) := by show fitOk k i o = false; simp [fitOk, h1, h2, h3, h4, h5, h6, h7]
  clear h1 h2 h3 h4 h5 h6 h7
  go_enter Try.func99, Try.ntmps99
  go_wp2
  go_ret
  exact ⟨ret_bool HE.out.symm, rfl⟩

end Go.Proofs.Ytjenkhphngiphaa

namespace Go.Proofs.Ytjenkhphngiphaa
open Go.RowKit

def hasB (n : Nat) (B : Nat → Bool) (x : Bool) : Bool := decide (∃ i, i < n ∧ B i = x)

theorem hasB_no {n : Nat} {B : Nat → Bool} {x : Bool} (h : ∀ i, i < n → B i ≠ x) : hasB n B x = false := by
  unfold hasB
  rw [decide_eq_false_iff_not]
  rintro ⟨i, hi, e⟩
  exact h i hi e

theorem hasB_yes {n : Nat} {B : Nat → Bool} {x : Bool} (k : Nat) (hk : k < n) (e : B k = x) : hasB n B x = true := by
  unfold hasB
  rw [decide_eq_true_eq]
  exact ⟨k, hk, e⟩

set_option maxHeartbeats 400000 in
theorem indexB_any (a : Option Addr) (n c : Nat) (B : Nat → Bool) (w : World) (hn : n ≤ 140737488355328) (h : Rowb w a n B) :
    Calls Try.prog 48 #[.slice a n c, .bool false] w fun e w' => (∃ y : Int, e = .returned (.int .i64 y) ∧ hasB n B false = decide (0 ≤ y)) ∧ w' = w := by
  obtain ⟨b, o, ha, hc⟩ := h
  have HC : Hid (∀ i, i < n → w.cell? ⟨b, o + i, none⟩ = some (.bool (B i))) := hc
  clear hc
  go_enter Try.func48, Try.ntmps48
  go_wp2
  go_loop [8] (fun i => ∃ k : Nat, k ≤ n ∧ i = .int .i64 k ∧ Hid (∀ j, j < k → B j ≠ false)) (fun i => n - (intOf i).toNat)
  case atStart => exact ⟨0, Nat.zero_le _, rfl, hid (fun j hj => absurd hj (Nat.not_lt_zero _))⟩
  case round =>
    obtain ⟨k, hk, rfl, H⟩ := hrel
    by_cases hlt : k < n
    · obtain rfl := ha (by omega)
      have hck := HC.out k hlt
      have hzk : (k : Int) < n := by omega
      cases hb : B k
      · have E : Hid (B k = false) := hb
        rw [hb] at hck
        clear hb
        go_wp2
        go_ret
        exact ⟨⟨k, rfl, by rw [hasB_yes k hlt E.out]; simp⟩, rfl⟩
      · have E : Hid (B k ≠ false) := by show B k ≠ false; rw [hb]; decide
        rw [hb] at hck
        clear hb
        go_wp2
        go_round
        case rel => exact ⟨k + 1, by omega, by go_num, hid (snoc_all H.out E.out)⟩
        case measure => simp [intOf]; omega
    · go_wp2
      go_ret
      exact ⟨⟨-1, rfl, by rw [hasB_no (fun i hi => H.out i (by omega))]; rfl⟩, rfl⟩

theorem containsB_any (a : Option Addr) (n c : Nat) (B : Nat → Bool) (w : World) (hn : n ≤ 140737488355328) (h : Rowb w a n B) :
    Calls Try.prog 89 #[.slice a n c, .bool false] w fun e w' => e = .returned (.bool (hasB n B false)) ∧ w' = w := by
  have C : Hid (Calls Try.prog 48 #[.slice a n c, .bool false] w fun e w' => (∃ y : Int, e = .returned (.int .i64 y) ∧ hasB n B false = decide (0 ≤ y)) ∧ w' = w) := indexB_any a n c B w hn h
  clear h hn
  go_enter Try.func89, Try.ntmps89
  go_wp2_with fail
  refine C.out.mono ?_
  rintro e w' ⟨⟨y, rfl, hy⟩, rfl⟩
  have HY : Hid (hasB n B false = decide (0 ≤ y)) := hy
  clear hy C
  go_wp2
  go_ret
  exact ⟨ret_bool (by rw [HY.out]), rfl⟩

theorem startFn_any (s : ByteArray) (k : Int) (w : World) : Calls Try.prog 101 #[.agg #[.string s, .int .i64 k]] w fun e w' => e = .returned (.bool (k == 1)) ∧ Below w.heap.size w w' := by
  go_enter Try.func101, Try.ntmps101
  go_wp2
  go_ret
  exact ⟨rfl, box_below _ _⟩

set_option maxHeartbeats 400000 in
theorem start_any (a : Option Addr) (N c : Nat) (M : Nat → ByteArray) (K : Nat → Int) (w : World) (hN : N ≤ 140737488355328) (h : Nds w a N M K) (hex : ∃ i, i < N ∧ K i = 1) :
    Calls Try.prog 100 #[.slice a N c, .func (Fn.func 101) #[] #[]] w fun e w' => (∃ r : Nat, e = .returned (.int .i64 r) ∧ r < N ∧ K r = 1) ∧ Below w.heap.size w w' := by
  obtain ⟨b, o, ha, hc⟩ := h
  have HC : Hid (∀ i, i < N → w.cell? ⟨b, o + i * 2, none⟩ = some (.string (M i)) ∧ w.cell? ⟨b, o + i * 2 + 1, none⟩ = some (.int .i64 (K i))) := hc
  have HX : Hid (∃ i, i < N ∧ K i = 1) := hex
  clear hc hex
  go_enter Try.func100, Try.ntmps100
  go_wp2
  go_loopw [8] (fun i wr => ∃ k : Nat, k ≤ N ∧ i = .int .i64 k ∧ Hid (∀ j, j < k → K j ≠ 1) ∧ Hid (Below w.heap.size w wr)) (fun i _ => N - (intOf i).toNat)
  case atStart => exact ⟨0, Nat.zero_le _, rfl, hid (fun j hj => absurd hj (Nat.not_lt_zero _)), Below.refl _ _⟩
  case round =>
    obtain ⟨k, hk, rfl, HJ, HB⟩ := hrel
    by_cases hlt : k < N
    · obtain rfl := ha (by omega)
      obtain ⟨h1, h2⟩ := Nds.at HC.out HB.out hlt
      have hzk : (k : Int) < N := by omega
      have C : Hid (Calls Try.prog 101 #[.agg #[.string (M k), .int .i64 (K k)]] wr fun e w' => e = .returned (.bool (K k == 1)) ∧ Below wr.heap.size wr w') := startFn_any (M k) (K k) wr
      go_wp2_with fail
      refine C.out.mono ?_
      rintro e w1 ⟨rfl, hb1⟩
      have HB1 : Hid (Below w.heap.size w w1) := HB.out.trans (hb1.mono HB.out.size)
      clear hb1 h1 h2 C
      by_cases e : K k = 1
      · have HE : Hid (K k = 1) := e
        have e' : (K k == 1) = true := beq_iff_eq.2 e
        clear e
        go_wp2
        go_ret
        exact ⟨⟨k, rfl, hlt, HE.out⟩, HB1.out⟩
      · have HE : Hid (K k ≠ 1) := e
        have e' : (K k == 1) = false := beq_eq_false_iff_ne.2 e
        clear e
        go_wp2
        go_roundw
        case rel => exact ⟨k + 1, by omega, by go_num, hid (snoc_all HJ.out HE.out), HB1.out⟩
        case measure => simp [intOf]; omega
    · obtain ⟨i, hi, e⟩ := HX.out
      exact absurd e (HJ.out i (by omega))

theorem endsOk_all {N F : Nat} {A B : Nat → Int} (h : endsOk N F A B = true) : ∀ i, i < F → (0 ≤ A i ∧ A i < N) ∧ (0 ≤ B i ∧ B i < N) := by
  unfold endsOk at h
  exact of_decide_eq_true h

theorem below_drewn {B : Nat} {w w' : World} (h : Below B w w') (q : Nat) : Below B w (w'.drewN q) := h.trans ⟨rfl, rfl, rfl, Nat.le_refl _, fun _ _ => rfl⟩

/-- Has each node as many flows as its kind asks? -/
def fitAll (N F : Nat) (K A B : Nat → Int) : Bool := decide (∀ i : Nat, i < N → fitOk (K i) (tally B i F) (tally A i F) = true)

theorem fitAll_no {N F : Nat} {K A B : Nat → Int} (k : Nat) (hk : k < N) (h : fitOk (K k) (tally B k F) (tally A k F) = false) : fitAll N F K A B = false := by
  unfold fitAll
  rw [decide_eq_false_iff_not]
  intro hh
  have := hh k hk
  rw [h] at this
  cases this

theorem fitAll_yes {N F : Nat} {K A B : Nat → Int} (h : ∀ i : Nat, i < N → fitOk (K i) (tally B i F) (tally A i F) = true) : fitAll N F K A B = true := by
  unfold fitAll
  rw [decide_eq_true_eq]
  exact h

theorem zeros_get (i : Nat) (hi : i < 20) : (#[.int .i64 0, .int .i64 0, .int .i64 0, .int .i64 0, .int .i64 0, .int .i64 0, .int .i64 0, .int .i64 0, .int .i64 0, .int .i64 0, .int .i64 0, .int .i64 0, .int .i64 0, .int .i64 0, .int .i64 0, .int .i64 0, .int .i64 0, .int .i64 0, .int .i64 0, .int .i64 0] : Array Value)[i]? = some (.int .i64 0) := by
  match i, hi with
  | 0, _ => rfl
  | 1, _ => rfl
  | 2, _ => rfl
  | 3, _ => rfl
  | 4, _ => rfl
  | 5, _ => rfl
  | 6, _ => rfl
  | 7, _ => rfl
  | 8, _ => rfl
  | 9, _ => rfl
  | 10, _ => rfl
  | 11, _ => rfl
  | 12, _ => rfl
  | 13, _ => rfl
  | 14, _ => rfl
  | 15, _ => rfl
  | 16, _ => rfl
  | 17, _ => rfl
  | 18, _ => rfl
  | 19, _ => rfl
  | n + 20, h => exact absurd h (by omega)

/-- The two counters of flowsFit, behind k flows. -/
structure Fit (w wr : World) (na fa : Option Addr) (N nc F fc : Nat) (A B : Nat → Int) (k : Nat) : Prop where
  below : Below (w.heap.size + 1) (w.alloc (.cells #[.slice na N nc, .slice fa F fc] 25)) wr
  ins : wr.rowIs (w.heap.size + 1) 148 20 (fun i => .int .i64 (tally B i k : Nat))
  outs : wr.rowIs (w.heap.size + 1 + 1) 148 20 (fun i => .int .i64 (tally A i k : Nat))

theorem fit_start (w : World) (na fa : Option Addr) (N nc F fc : Nat) (A B : Nat → Int) :
    Fit w (((w.alloc (.cells #[.slice na N nc, .slice fa F fc] 25)).alloc (.cells #[.int .i64 0, .int .i64 0, .int .i64 0, .int .i64 0, .int .i64 0, .int .i64 0, .int .i64 0, .int .i64 0, .int .i64 0, .int .i64 0, .int .i64 0, .int .i64 0, .int .i64 0, .int .i64 0, .int .i64 0, .int .i64 0, .int .i64 0, .int .i64 0, .int .i64 0, .int .i64 0] 148)).alloc (.cells #[.int .i64 0, .int .i64 0, .int .i64 0, .int .i64 0, .int .i64 0, .int .i64 0, .int .i64 0, .int .i64 0, .int .i64 0, .int .i64 0, .int .i64 0, .int .i64 0, .int .i64 0, .int .i64 0, .int .i64 0, .int .i64 0, .int .i64 0, .int .i64 0, .int .i64 0, .int .i64 0] 148)) na fa N nc F fc A B 0 := by
  refine ⟨((Below.refl _ _).alloc (by simp) _).alloc (by simp) _, ?_, ?_⟩
  · exact (rowIs_lit (w.alloc (.cells #[.slice na N nc, .slice fa F fc] 25)) #[.int .i64 0, .int .i64 0, .int .i64 0, .int .i64 0, .int .i64 0, .int .i64 0, .int .i64 0, .int .i64 0, .int .i64 0, .int .i64 0, .int .i64 0, .int .i64 0, .int .i64 0, .int .i64 0, .int .i64 0, .int .i64 0, .int .i64 0, .int .i64 0, .int .i64 0, .int .i64 0] 148 (w.heap.size + 1) 20 (fun _ => .int .i64 0) (by simp) rfl zeros_get).alloc _
  · exact rowIs_lit ((w.alloc (.cells #[.slice na N nc, .slice fa F fc] 25)).alloc (.cells #[.int .i64 0, .int .i64 0, .int .i64 0, .int .i64 0, .int .i64 0, .int .i64 0, .int .i64 0, .int .i64 0, .int .i64 0, .int .i64 0, .int .i64 0, .int .i64 0, .int .i64 0, .int .i64 0, .int .i64 0, .int .i64 0, .int .i64 0, .int .i64 0, .int .i64 0, .int .i64 0] 148)) #[.int .i64 0, .int .i64 0, .int .i64 0, .int .i64 0, .int .i64 0, .int .i64 0, .int .i64 0, .int .i64 0, .int .i64 0, .int .i64 0, .int .i64 0, .int .i64 0, .int .i64 0, .int .i64 0, .int .i64 0, .int .i64 0, .int .i64 0, .int .i64 0, .int .i64 0, .int .i64 0] 148 (w.heap.size + 1 + 1) 20 (fun _ => .int .i64 0) (by simp) rfl zeros_get

theorem tally_step (X : Nat → Int) (x k i : Nat) (h : X k = x) : tally X i (k + 1) = if i = x then tally X x k + 1 else tally X i k := by
  by_cases e : i = x
  · subst e
    rw [if_pos rfl, tally_hit h]
  · rw [if_neg e, tally_miss (by omega)]

theorem Fit.step {w wr : World} {na fa : Option Addr} {N nc F fc : Nat} {A B : Nat → Int} {k : Nat} (h : Fit w wr na fa N nc F fc A B k) (o : Obj) {x y : Nat} (hB : B k = x) (hA : A k = y) :
    Fit w (((wr.setCell ⟨w.heap.size + 1, x, none⟩ (.int .i64 ((tally B x k : Nat) + 1))).setCell ⟨w.heap.size + 1 + 1, y, none⟩ (.int .i64 ((tally A y k : Nat) + 1))).alloc o) na fa N nc F fc A B (k + 1) := by
  have hlt := h.outs.lt
  refine ⟨((h.below.setCell (by show w.heap.size + 1 ≤ w.heap.size + 1; omega) _).setCell (by show w.heap.size + 1 ≤ w.heap.size + 1 + 1; omega) _).alloc (by simp [World.setCell]; omega) _, ?_, ?_⟩
  · refine (((h.ins.set x _).setOther (by show w.heap.size + 1 ≠ w.heap.size + 1 + 1; omega) _).alloc o).congr (fun i _ => ?_)
    rw [tally_step B x k i hB]
    by_cases e : i = x
    · subst e
      simp
    · simp [e]
  · refine (((h.outs.setOther (by show w.heap.size + 1 + 1 ≠ w.heap.size + 1; omega) _).set y _).alloc o).congr (fun i _ => ?_)
    rw [tally_step A y k i hA]
    by_cases e : i = y
    · subst e
      simp
    · simp [e]

set_option maxHeartbeats 1000000 in
theorem flowsFit_any (na fa : Option Addr) (N nc F fc : Nat) (M : Nat → ByteArray) (K A B : Nat → Int) (w : World) (hN : N ≤ 20) (hF : F ≤ 30) (hn : Nds w na N M K) (hf : Fls w fa F A B) (he : endsOk N F A B = true) :
    Calls Try.prog 73 #[.agg #[.slice na N nc, .slice fa F fc]] w fun e w' => e = .returned (.bool (fitAll N F K A B)) ∧ Below w.heap.size w w' := by
  have HN : Hid (Nds w na N M K) := hn
  have HF : Hid (Fls w fa F A B) := hf
  have HE : Hid (∀ i, i < F → (0 ≤ A i ∧ A i < N) ∧ (0 ≤ B i ∧ B i < N)) := endsOk_all he
  clear hn hf he
  go_enter Try.func73, Try.ntmps73
  go_wp2
  go_loopw [12] (fun i wr => ∃ k : Nat, k ≤ F ∧ i = .int .i64 k ∧ Hid (Fit w wr na fa N nc F fc A B k)) (fun i _ => F - (intOf i).toNat)
  case atStart => exact ⟨0, Nat.zero_le _, rfl, fit_start w na fa N nc F fc A B⟩
  case round =>
    obtain ⟨k, hk, rfl, HT⟩ := hrel
    have HB : Hid (Below w.heap.size w wr) := (box_below _ _).trans (HT.out.below.mono (by omega))
    have hs2 : w.heap.size + 1 + 1 < wr.heap.size := HT.out.outs.lt
    have hs1 : w.heap.size + 1 < wr.heap.size := by omega
    by_cases hlt : k < F
    · obtain ⟨b, o, ha, hc⟩ := HF.out
      obtain rfl := ha (by omega)
      obtain ⟨h1, h2⟩ := Fls.at hc HB.out hlt
      have hE := HE.out k hlt
      obtain ⟨x, hx⟩ : ∃ x : Nat, B k = x := ⟨(B k).toNat, by omega⟩
      obtain ⟨y, hy⟩ : ∃ y : Nat, A k = y := ⟨(A k).toNat, by omega⟩
      have hx20 : x < 20 := by omega
      have hy20 : y < 20 := by omega
      have hx20' : (x : Int) < 20 := by omega
      have hy20' : (y : Int) < 20 := by omega
      have HX : Hid (B k = x ∧ A k = y) := ⟨hx, hy⟩
      rw [hx] at h2
      rw [hy] at h1
      have h3 : wr.cell? ⟨w.heap.size + 1, x, none⟩ = some (.int .i64 (tally B x k : Nat)) := HT.out.ins.cell hx20
      have h4 := HT.out.ins.frozen x
      have h5 : wr.cell? ⟨w.heap.size + 1 + 1, y, none⟩ = some (.int .i64 (tally A y k : Nat)) := HT.out.outs.cell hy20
      have h6 := HT.out.outs.frozen y
      have h7 := tally_le B x k
      have h8 := tally_le A y k
      have HT2 : Hid (Fit w (((wr.setCell ⟨w.heap.size + 1, x, none⟩ (.int .i64 ((tally B x k : Nat) + 1))).setCell ⟨w.heap.size + 1 + 1, y, none⟩ (.int .i64 ((tally A y k : Nat) + 1))).alloc (.cells #[.int .i64 y, .int .i64 x] 83)) na (some ⟨b, o, none⟩) N nc F fc A B (k + 1)) := HT.out.step _ hx hy
      clear hc ha hE hx hy HT
      go_wp2
      go_roundw
      case rel => exact ⟨k + 1, by omega, by go_num, HT2.out⟩
      case measure => simp [intOf]; omega
    · obtain rfl : F = k := by omega
      obtain ⟨w3, e3⟩ : ∃ x, x = wr := ⟨_, rfl⟩
      rw [← e3] at HT HB
      rw [← e3]
      clear e3 hs2 hs1
      have hp0 : w3.cell? ⟨w.heap.size, 0, none⟩ = some (.slice na N nc) := by rw [HT.out.below.cell (p := ⟨w.heap.size, 0, none⟩) (by show w.heap.size < w.heap.size + 1; omega)]; exact cell_of_alloc rfl
      go_wp2
      go_loopw [32] (fun i wr => ∃ k : Nat, k ≤ N ∧ i = .int .i64 k ∧ Hid (∀ j : Nat, j < k → fitOk (K j) (tally B j F) (tally A j F) = true) ∧ Hid (Below w3.heap.size w3 wr)) (fun i _ => N - (intOf i).toNat)
      case atStart => exact ⟨0, Nat.zero_le _, rfl, hid (fun j hj => absurd hj (Nat.not_lt_zero _)), Below.refl _ _⟩
      case round =>
        obtain ⟨k, hk, rfl, HJ, HB4⟩ := hrel
        have HBw : Hid (Below w.heap.size w wr) := HB.out.trans (HB4.out.mono HB.out.size)
        have hsz : w3.heap.size ≤ wr.heap.size := HB4.out.size
        have hs3 : w.heap.size + 1 + 1 < w3.heap.size := HT.out.outs.lt
        have hs4 : w.heap.size + 1 + 1 < wr.heap.size := by omega
        have hs5 : w.heap.size + 1 < wr.heap.size := by omega
        by_cases hlt : k < N
        · obtain ⟨b, o, ha, hc⟩ := HN.out
          obtain rfl := ha (by omega)
          obtain ⟨h1, h2⟩ := Nds.at hc HBw.out hlt
          have h3 : wr.cell? ⟨w.heap.size + 1, k, none⟩ = some (.int .i64 (tally B k F : Nat)) := by rw [HB4.out.cell (p := ⟨w.heap.size + 1, k, none⟩) (by show w.heap.size + 1 < w3.heap.size; omega)]; exact HT.out.ins.cell (by omega)
          have h4 : wr.cell? ⟨w.heap.size + 1 + 1, k, none⟩ = some (.int .i64 (tally A k F : Nat)) := by rw [HB4.out.cell (p := ⟨w.heap.size + 1 + 1, k, none⟩) (by show w.heap.size + 1 + 1 < w3.heap.size; omega)]; exact HT.out.outs.cell (by omega)
          have hk20 : (k : Int) < 20 := by omega
          have C : Hid (∀ u, Calls Try.prog 99 #[.int .i64 (K k), .int .i64 (tally B k F : Nat), .int .i64 (tally A k F : Nat)] u fun e w' => e = .returned (.bool (fitOk (K k) (tally B k F) (tally A k F))) ∧ w' = u) := fun u => countsFit_any (K k) _ _ u (by have := tally_le B k F; omega) (by have := tally_le A k F; omega)
          clear hc ha
          generalize htB : tally B k F = tB at *
          generalize htA : tally A k F = tA at *
          have HTT : Hid (tally B k F = tB ∧ tally A k F = tA) := ⟨htB, htA⟩
          clear htA htB
          cases hb : fitOk (K k) tB tA
          · have HE2 : Hid (fitOk (K k) (tally B k F) (tally A k F) = false) := by show fitOk (K k) (tally B k F) (tally A k F) = false; rw [HTT.out.1, HTT.out.2]; exact hb
            rw [hb] at C
            clear hb
            go_wp2
            go_quiet (first | (go_at_call 99; exact Calls.quiet_of_same (C.out _)))
            go_wp2
            go_ret
            exact ⟨ret_bool (fitAll_no k hlt HE2.out).symm, below_drewn (HBw.out.alloc HBw.out.size _) _⟩
          · have HE2 : Hid (fitOk (K k) (tally B k F) (tally A k F) = true) := by show fitOk (K k) (tally B k F) (tally A k F) = true; rw [HTT.out.1, HTT.out.2]; exact hb
            rw [hb] at C
            clear hb
            go_wp2
            go_quiet (first | (go_at_call 99; exact Calls.quiet_of_same (C.out _)))
            go_wp2
            go_roundw
            case rel => exact ⟨k + 1, by omega, by go_num, hid (snoc_all HJ.out HE2.out), below_drewn (HB4.out.alloc HB4.out.size _) _⟩
            case measure => simp [intOf]; omega
        · go_wp2
          go_ret
          exact ⟨ret_bool (fitAll_yes (fun i hi => HJ.out i (by omega))).symm, HBw.out⟩

end Go.Proofs.Ytjenkhphngiphaa
