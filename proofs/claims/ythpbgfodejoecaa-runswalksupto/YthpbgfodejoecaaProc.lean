/- Nodes and flows in memory; isKind, isNode, find, isName. -/
import Derived.Test.YthpbgfodejoecaaReachJ
namespace Go.Proofs.Ythpbgfodejoecaa
open Go.RowKit

/-- N nodes lie at a: their names, their kinds. -/
def Nds (w : World) (a : Option Addr) (N : Nat) (M : Nat → ByteArray) (K : Nat → Int) : Prop :=
  ∃ b o, (0 < N → a = some ⟨b, o, none⟩) ∧ ∀ i, i < N → w.cell? ⟨b, o + i * 2, none⟩ = some (.string (M i)) ∧ w.cell? ⟨b, o + i * 2 + 1, none⟩ = some (.int .i64 (K i))

/-- F flows lie at a: whence, whither. -/
def Fls (w : World) (a : Option Addr) (F : Nat) (A B : Nat → Int) : Prop :=
  ∃ b o, (0 < F → a = some ⟨b, o, none⟩) ∧ ∀ i, i < F → w.cell? ⟨b, o + i * 2, none⟩ = some (.int .i64 (A i)) ∧ w.cell? ⟨b, o + i * 2 + 1, none⟩ = some (.int .i64 (B i))

theorem isKind_any (k : Int) (w : World) : Calls Try.prog 105 #[.int .i64 k] w fun e w' => e = .returned (.bool (decide (1 ≤ k ∧ k ≤ 7))) ∧ w' = w := by
  by_cases h1 : 1 ≤ k
  · by_cases h2 : k ≤ 7
    · have e : decide (1 ≤ k ∧ k ≤ 7) = true := by simp [h1, h2]
      rw [e]
      clear e
      go_enter Try.func105, Try.ntmps105
      go_wp2
      go_ret
      exact ⟨rfl, rfl⟩
    · have e : decide (1 ≤ k ∧ k ≤ 7) = false := by simp [h1, h2]
      rw [e]
      clear e
      go_enter Try.func105, Try.ntmps105
      go_wp2
      go_ret
      exact ⟨rfl, rfl⟩
  · have e : decide (1 ≤ k ∧ k ≤ 7) = false := by simp [h1]
    rw [e]
    clear e
    go_enter Try.func105, Try.ntmps105
    go_wp2
    go_ret
    exact ⟨rfl, rfl⟩

theorem box_below (w : World) (o : Obj) : Below w.heap.size w (w.alloc o) := (Below.refl _ _).alloc (Nat.le_refl _) _

theorem isNode_any (na fa : Option Addr) (N nc F fc : Nat) (x : Int) (w : World) :
    Calls Try.prog 107 #[.agg #[.slice na N nc, .slice fa F fc], .int .i64 x] w fun e w' => e = .returned (.bool (decide (0 ≤ x ∧ x < N))) ∧ Below w.heap.size w w' := by
  by_cases h1 : 0 ≤ x
  · by_cases h2 : x < N
    · have e : decide (0 ≤ x ∧ x < N) = true := by simp [h1, h2]
      rw [e]
      clear e
      go_enter Try.func107, Try.ntmps107
      go_wp2
      go_ret
      exact ⟨rfl, box_below _ _⟩
    · have e : decide (0 ≤ x ∧ x < N) = false := by simp [h2]
      rw [e]
      clear e
      go_enter Try.func107, Try.ntmps107
      go_wp2
      go_ret
      exact ⟨rfl, box_below _ _⟩
  · have e : decide (0 ≤ x ∧ x < N) = false := by simp [h1]
    rw [e]
    clear e
    go_enter Try.func107, Try.ntmps107
    go_wp2
    go_ret
    exact ⟨rfl, box_below _ _⟩

/-- The number of the first of N names that is s, or -1. -/
def fnd (N : Nat) (M : Nat → ByteArray) (s : ByteArray) : Int :=
  match (List.range N).find? (fun i => (M i).toList == s.toList) with
  | some i => (i : Int)
  | none => -1

theorem fnd_hit {N k : Nat} {M : Nat → ByteArray} {s : ByteArray} (hk : k < N) (h : ((M k).toList == s.toList) = true) (hj : ∀ j, j < k → ((M j).toList == s.toList) = false) : fnd N M s = k := by
  have : (List.range N).find? (fun i => (M i).toList == s.toList) = some k := List.find?_range_eq_some.2 ⟨h, List.mem_range.2 hk, fun j h1 => by rw [hj j h1]; rfl⟩
  unfold fnd
  rw [this]

theorem fnd_none {N : Nat} {M : Nat → ByteArray} {s : ByteArray} (hj : ∀ j, j < N → ((M j).toList == s.toList) = false) : fnd N M s = -1 := by
  have : (List.range N).find? (fun i => (M i).toList == s.toList) = none := List.find?_range_eq_none.2 (fun j h1 => by rw [hj j h1]; rfl)
  unfold fnd
  rw [this]

theorem Nds.at {w wr : World} {b o : Nat} {N : Nat} {M : Nat → ByteArray} {K : Nat → Int} (hc : ∀ i, i < N → w.cell? ⟨b, o + i * 2, none⟩ = some (.string (M i)) ∧ w.cell? ⟨b, o + i * 2 + 1, none⟩ = some (.int .i64 (K i))) (hb : Below w.heap.size w wr) {k : Nat} (hk : k < N) :
    wr.cell? ⟨b, o + k * 2, none⟩ = some (.string (M k)) ∧ wr.cell? ⟨b, o + k * 2 + 1, none⟩ = some (.int .i64 (K k)) := by
  rw [hb.cell (p := ⟨b, o + k * 2, none⟩) (World.block_lt_of_cell? _ _ (hc k hk).1), hb.cell (p := ⟨b, o + k * 2 + 1, none⟩) (World.block_lt_of_cell? _ _ (hc k hk).2)]
  exact hc k hk

theorem Fls.at {w wr : World} {b o : Nat} {F : Nat} {A B : Nat → Int} (hc : ∀ i, i < F → w.cell? ⟨b, o + i * 2, none⟩ = some (.int .i64 (A i)) ∧ w.cell? ⟨b, o + i * 2 + 1, none⟩ = some (.int .i64 (B i))) (hb : Below w.heap.size w wr) {k : Nat} (hk : k < F) :
    wr.cell? ⟨b, o + k * 2, none⟩ = some (.int .i64 (A k)) ∧ wr.cell? ⟨b, o + k * 2 + 1, none⟩ = some (.int .i64 (B k)) := by
  rw [hb.cell (p := ⟨b, o + k * 2, none⟩) (World.block_lt_of_cell? _ _ (hc k hk).1), hb.cell (p := ⟨b, o + k * 2 + 1, none⟩) (World.block_lt_of_cell? _ _ (hc k hk).2)]
  exact hc k hk

theorem Nds.below {w w' : World} {a : Option Addr} {N : Nat} {M : Nat → ByteArray} {K : Nat → Int} (h : Nds w a N M K) (hb : Below w.heap.size w w') : Nds w' a N M K := by
  obtain ⟨b, o, ha, hc⟩ := h
  exact ⟨b, o, ha, fun i hi => Nds.at hc hb hi⟩

theorem Fls.below {w w' : World} {a : Option Addr} {F : Nat} {A B : Nat → Int} (h : Fls w a F A B) (hb : Below w.heap.size w w') : Fls w' a F A B := by
  obtain ⟨b, o, ha, hc⟩ := h
  exact ⟨b, o, ha, fun i hi => Fls.at hc hb hi⟩

set_option maxHeartbeats 400000 in
theorem find_any (a : Option Addr) (N c : Nat) (M : Nat → ByteArray) (K : Nat → Int) (s : ByteArray) (w : World) (hN : N ≤ 140737488355328) (h : Nds w a N M K) :
    Calls Try.prog 106 #[.slice a N c, .string s] w fun e w' => e = .returned (.int .i64 (fnd N M s)) ∧ Below w.heap.size w w' := by
  obtain ⟨b, o, ha, hc⟩ := h
  have HC : Hid (∀ i, i < N → w.cell? ⟨b, o + i * 2, none⟩ = some (.string (M i)) ∧ w.cell? ⟨b, o + i * 2 + 1, none⟩ = some (.int .i64 (K i))) := hc
  clear hc
  go_enter Try.func106, Try.ntmps106
  go_wp2
  go_loopw [9] (fun i wr => ∃ k : Nat, k ≤ N ∧ i = .int .i64 k ∧ Hid (∀ j, j < k → ((M j).toList == s.toList) = false) ∧ Hid (Below w.heap.size w wr)) (fun i _ => N - (intOf i).toNat)
  case atStart => exact ⟨0, Nat.zero_le _, rfl, hid (fun j hj => absurd hj (Nat.not_lt_zero _)), Below.refl _ _⟩
  case round =>
    obtain ⟨k, hk, rfl, HJ, HB⟩ := hrel
    by_cases hlt : k < N
    · obtain rfl := ha (by omega)
      obtain ⟨h1, h2⟩ := Nds.at HC.out HB.out hlt
      cases hb : ((M k).toList == s.toList)
      · have HE : Hid (((M k).toList == s.toList) = false) := hb
        go_wp2
        go_roundw
        case rel => exact ⟨k + 1, by omega, by go_num, hid (snoc_all HJ.out HE.out), HB.out.alloc HB.out.size _⟩
        case measure => simp [intOf]; omega
      · have HE : Hid (((M k).toList == s.toList) = true) := hb
        go_wp2
        go_ret
        exact ⟨ret_int (fnd_hit hlt HE.out HJ.out).symm, HB.out.alloc HB.out.size _⟩
    · go_wp2
      go_ret
      exact ⟨ret_int (fnd_none (fun j hj => HJ.out j (by omega))).symm, HB.out⟩

/-- All its bytes are letters a to z. -/
def letters (s : ByteArray) : Prop := ∀ k (h : k < s.size), 97 ≤ (s[k].toNat : Int) ∧ (s[k].toNat : Int) ≤ 122


def lettersDec (s : ByteArray) : Decidable (letters s) := by unfold letters; infer_instance

/-- A NAME. -/
def nameOk (s : ByteArray) : Bool :=
  decide (1 ≤ s.size) && decide (s.size ≤ 8) && @decide (letters s) (lettersDec s) && !(s.toList == [116, 114, 117, 101]) && !(s.toList == [102, 97, 108, 115, 101]) && !(s.toList == [115, 105, 108, 101, 110, 116])

theorem nameOk_short {s : ByteArray} (h : ¬ 1 ≤ s.size) : nameOk s = false := by simp [nameOk, h]
theorem nameOk_long {s : ByteArray} (h : ¬ s.size ≤ 8) : nameOk s = false := by simp [nameOk, h]
theorem nameOk_sign {s : ByteArray} (k : Nat) (hk : k < s.size) (h : ¬ (97 ≤ (s[k].toNat : Int) ∧ (s[k].toNat : Int) ≤ 122)) : nameOk s = false := by
  have : ¬ letters s := fun hl => h (hl k hk)
  simp [nameOk, this]

theorem nameOk_rest {s : ByteArray} (h1 : 1 ≤ s.size) (h2 : s.size ≤ 8) (h3 : letters s) : nameOk s = (!(s.toList == [116, 114, 117, 101]) && !(s.toList == [102, 97, 108, 115, 101]) && !(s.toList == [115, 105, 108, 101, 110, 116])) := by
  simp [nameOk, h1, h2, h3, Bool.and_assoc]

theorem isLetter_any (c : Int) (w : World) : Calls Try.prog 116 #[.int .u8 c] w fun e w' => e = .returned (.bool (decide (97 ≤ c ∧ c ≤ 122))) ∧ w' = w := by
  by_cases h1 : 97 ≤ c
  · have d1 : decide (97 ≤ c) = true := decide_eq_true h1
    by_cases h2 : c ≤ 122
    · have e : decide (97 ≤ c ∧ c ≤ 122) = true := by simp [h1, h2]
      rw [e]
      clear e
      go_enter Try.func116, Try.ntmps116
      go_wp2
      go_ret
      exact ⟨rfl, rfl⟩
    · have e : decide (97 ≤ c ∧ c ≤ 122) = false := by simp [h2]
      have E : Hid (decide (97 ≤ c ∧ c ≤ 122) = false) := e
      clear e
      go_enter Try.func116, Try.ntmps116
      go_wp2
      go_ret
      exact ⟨ret_bool (by first | rw [E.out] | exact (decide_eq_false (by omega)).symm | exact decide_eq_false (by omega)), rfl⟩
  · have e : decide (97 ≤ c ∧ c ≤ 122) = false := by simp [h1]
    rw [e]
    clear e
    go_enter Try.func116, Try.ntmps116
    go_wp2
    go_ret
    exact ⟨rfl, rfl⟩

set_option maxHeartbeats 400000 in
theorem isName_any (s : ByteArray) (w : World) :
    Calls Try.prog 104 #[.string s] w fun e w' => e = .returned (.bool (nameOk s)) ∧ w' = w := by
  by_cases h1 : 1 ≤ s.size
  · by_cases h2 : s.size ≤ 8
    · go_enter Try.func104, Try.ntmps104
      go_wp2
      go_loop [14] (fun i => ∃ k : Nat, k ≤ s.size ∧ i = .int .i64 k ∧ Hid (∀ j (h : j < s.size), j < k → 97 ≤ (s[j].toNat : Int) ∧ (s[j].toNat : Int) ≤ 122)) (fun i => s.size - (intOf i).toNat)
      case atStart => exact ⟨0, Nat.zero_le _, rfl, hid (fun j _ hj => absurd hj (Nat.not_lt_zero _))⟩
      case round =>
        obtain ⟨k, hk, rfl, HJ⟩ := hrel
        by_cases hlt : k < s.size
        · by_cases hL : 97 ≤ (s[k].toNat : Int) ∧ (s[k].toNat : Int) ≤ 122
          · have C : Hid (Calls Try.prog 116 #[.int .u8 s[k].toNat] w fun e w' => e = .returned (.bool true) ∧ w' = w) := (isLetter_any _ w).mono fun e w' hh => ⟨by rw [hh.1, decide_eq_true hL], hh.2⟩
            have H3 : Hid (97 ≤ (s[k].toNat : Int) ∧ (s[k].toNat : Int) ≤ 122) := hL
            clear hL
            go_wp2_with fail
            refine C.out.mono ?_
            rintro e w' ⟨rfl, rfl⟩
            clear C
            go_wp2
            go_round
            case rel =>
              refine ⟨k + 1, by omega, by go_num, hid (fun j h hj => ?_)⟩
              by_cases e : j = k
              · subst e; exact H3.out
              · exact HJ.out j h (by omega)
            case measure => simp [intOf]; omega
          · have C : Hid (Calls Try.prog 116 #[.int .u8 s[k].toNat] w fun e w' => e = .returned (.bool false) ∧ w' = w) := (isLetter_any _ w).mono fun e w' hh => ⟨by rw [hh.1, decide_eq_false hL], hh.2⟩
            have HN : Hid (nameOk s = false) := nameOk_sign k hlt hL
            clear hL
            go_wp2_with fail
            refine C.out.mono ?_
            rintro e w' ⟨rfl, rfl⟩
            clear C
            go_wp2
            go_ret
            exact ⟨ret_bool HN.out.symm, rfl⟩
        · have HL : Hid (nameOk s = (!(s.toList == [116, 114, 117, 101]) && !(s.toList == [102, 97, 108, 115, 101]) && !(s.toList == [115, 105, 108, 101, 110, 116]))) := nameOk_rest h1 h2 (fun j h => HJ.out j h (by omega))
          cases c1 : (s.toList == [116, 114, 117, 101])
          · cases c2 : (s.toList == [102, 97, 108, 115, 101])
            · go_wp2
              go_ret
              exact ⟨ret_bool (by rw [HL.out, c1, c2]; rfl), rfl⟩
            · go_wp2
              go_ret
              exact ⟨ret_bool (by rw [HL.out, c1, c2]; rfl), rfl⟩
          · go_wp2
            go_ret
            exact ⟨ret_bool (by rw [HL.out, c1]; rfl), rfl⟩
    · have e := nameOk_long h2
      rw [e]
      clear e
      go_enter Try.func104, Try.ntmps104
      go_wp2
      go_ret
      exact ⟨rfl, rfl⟩
  · have e := nameOk_short h1
    rw [e]
    clear e
    go_enter Try.func104, Try.ntmps104
    go_wp2
    go_ret
    exact ⟨rfl, rfl⟩

end Go.Proofs.Ythpbgfodejoecaa
