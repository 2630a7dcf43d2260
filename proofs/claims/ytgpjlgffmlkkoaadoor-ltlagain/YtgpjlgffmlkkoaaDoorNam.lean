/- Names: is a text one; which atom a word stands for; which word an atom. -/
import Derived.Test.YtgpjlgffmlkkoaaDoorFml
namespace Go.Proofs.YtgpjlgffmlkkoaaDoor
open Go.RowKit

/-- All its bytes are letters a to z. -/
def letters (s : ByteArray) : Prop := ∀ k (h : k < s.size), 97 ≤ (s[k].toNat : Int) ∧ (s[k].toNat : Int) ≤ 122


def lettersDec (s : ByteArray) : Decidable (letters s) := by unfold letters; infer_instance

/-- A NAME. -/
def nameOk (s : ByteArray) : Bool :=
  decide (1 ≤ s.size) && decide (s.size ≤ 8) && @decide (letters s) (lettersDec s) && !(s.toList == [116, 114, 117, 101]) && !(s.toList == [102, 97, 108, 115, 101]) && !(s.toList == [115, 105, 108, 101, 110, 116])

theorem nameOk_short {s : ByteArray} (h : ¬ 1 ≤ s.size) : nameOk s = false := by simp [nameOk, h]
theorem nameOk_long {s : ByteArray} (h : ¬ s.size ≤ 8) : nameOk s = false := by simp [nameOk, h]
theorem nameOk_sign {s : ByteArray} (k : Nat) (hk : k < s.size) (h : ¬ (97 ≤ (s[k].toNat : Int) ∧ (s[k].toNat : Int) ≤ 122)) : nameOk s = false := by
  have : ¬ letters s := fun hl => h (hl k hk)
  simp [nameOk, this]

theorem nameOk_rest {s : ByteArray} (h1 : 1 ≤ s.size) (h2 : s.size ≤ 8) (h3 : letters s) : nameOk s = (!(s.toList == [116, 114, 117, 101]) && !(s.toList == [102, 97, 108, 115, 101]) && !(s.toList == [115, 105, 108, 101, 110, 116])) := by
  simp [nameOk, h1, h2, h3, Bool.and_assoc]

theorem isLetter_any (c : Int) (w : World) : Calls Tryd.prog 65 #[.int .u8 c] w fun e w' => e = .returned (.bool (decide (97 ≤ c ∧ c ≤ 122))) ∧ w' = w := by
  by_cases h1 : 97 ≤ c
  · have d1 : decide (97 ≤ c) = true := decide_eq_true h1
    by_cases h2 : c ≤ 122
    · have e : decide (97 ≤ c ∧ c ≤ 122) = true := by simp [h1, h2]
      rw [e]
      clear e
      go_enter Tryd.func65, Tryd.ntmps65
      go_wp2
      go_ret
      exact ⟨rfl, rfl⟩
    · have e : decide (97 ≤ c ∧ c ≤ 122) = false := by simp [h2]
      have E : Hid (decide (97 ≤ c ∧ c ≤ 122) = false) := e
      clear e
      go_enter Tryd.func65, Tryd.ntmps65
      go_wp2
      go_ret
      exact ⟨ret_bool (by first | rw [E.out] | exact (decide_eq_false (by omega)).symm | exact decide_eq_false (by omega)), rfl⟩
  · have e : decide (97 ≤ c ∧ c ≤ 122) = false := by simp [h1]
    rw [e]
    clear e
    go_enter Tryd.func65, Tryd.ntmps65
    go_wp2
    go_ret
    exact ⟨rfl, rfl⟩

set_option maxHeartbeats 400000 in
theorem isName_any (s : ByteArray) (w : World) :
    Calls Tryd.prog 69 #[.string s] w fun e w' => e = .returned (.bool (nameOk s)) ∧ w' = w := by
  by_cases h1 : 1 ≤ s.size
  · by_cases h2 : s.size ≤ 8
    · go_enter Tryd.func69, Tryd.ntmps69
      go_wp2
      go_loop [14] (fun i => ∃ k : Nat, k ≤ s.size ∧ i = .int .i64 k ∧ Hid (∀ j (h : j < s.size), j < k → 97 ≤ (s[j].toNat : Int) ∧ (s[j].toNat : Int) ≤ 122)) (fun i => s.size - (intOf i).toNat)
      case atStart => exact ⟨0, Nat.zero_le _, rfl, hid (fun j _ hj => absurd hj (Nat.not_lt_zero _))⟩
      case round =>
        obtain ⟨k, hk, rfl, HJ⟩ := hrel
        by_cases hlt : k < s.size
        · by_cases hL : 97 ≤ (s[k].toNat : Int) ∧ (s[k].toNat : Int) ≤ 122
          · have C : Hid (Calls Tryd.prog 65 #[.int .u8 s[k].toNat] w fun e w' => e = .returned (.bool true) ∧ w' = w) := (isLetter_any _ w).mono fun e w' hh => ⟨by rw [hh.1, decide_eq_true hL], hh.2⟩
            have H3 : Hid (97 ≤ (s[k].toNat : Int) ∧ (s[k].toNat : Int) ≤ 122) := hL
            clear hL
            go_wp2_with fail
            refine C.out.mono ?_
            rintro e w' ⟨rfl, rfl⟩
            clear C
            go_wp2
            go_round
            case rel =>
              refine ⟨k + 1, by omega, by go_num, hid (fun j h hj => ?_)⟩
              by_cases e : j = k
              · subst e; exact H3.out
              · exact HJ.out j h (by omega)
            case measure => simp [intOf]; omega
          · have C : Hid (Calls Tryd.prog 65 #[.int .u8 s[k].toNat] w fun e w' => e = .returned (.bool false) ∧ w' = w) := (isLetter_any _ w).mono fun e w' hh => ⟨by rw [hh.1, decide_eq_false hL], hh.2⟩
            have HN : Hid (nameOk s = false) := nameOk_sign k hlt hL
            clear hL
            go_wp2_with fail
            refine C.out.mono ?_
            rintro e w' ⟨rfl, rfl⟩
            clear C
            go_wp2
            go_ret
            exact ⟨ret_bool HN.out.symm, rfl⟩
        · have HL : Hid (nameOk s = (!(s.toList == [116, 114, 117, 101]) && !(s.toList == [102, 97, 108, 115, 101]) && !(s.toList == [115, 105, 108, 101, 110, 116]))) := nameOk_rest h1 h2 (fun j h => HJ.out j h (by omega))
          cases c1 : (s.toList == [116, 114, 117, 101])
          · cases c2 : (s.toList == [102, 97, 108, 115, 101])
            · go_wp2
              go_ret
              exact ⟨ret_bool (by rw [HL.out, c1, c2]; rfl), rfl⟩
            · go_wp2
              go_ret
              exact ⟨ret_bool (by rw [HL.out, c1, c2]; rfl), rfl⟩
          · go_wp2
            go_ret
            exact ⟨ret_bool (by rw [HL.out, c1]; rfl), rfl⟩
    · have e := nameOk_long h2
      rw [e]
      clear e
      go_enter Tryd.func69, Tryd.ntmps69
      go_wp2
      go_ret
      exact ⟨rfl, rfl⟩
  · have e := nameOk_short h1
    rw [e]
    clear e
    go_enter Tryd.func69, Tryd.ntmps69
    go_wp2
    go_ret
    exact ⟨rfl, rfl⟩

set_option maxHeartbeats 1000000 in
theorem named_any (s : ByteArray) (w : World) (hs : s.size ≤ 9223372036854775807) :
    Calls Tryd.prog 33 #[.string s] w fun e w' => e = .returned (.bool (nameOk s)) ∧ w' = w := by
  go_enter Tryd.func33, Tryd.ntmps33
  go_wp2
  go_loop [3] (fun i => ∃ k : Nat, k ≤ s.size ∧ i = .int .i64 k ∧ Hid (∀ j (h : j < s.size), j < k → 97 ≤ (s[j].toNat : Int) ∧ (s[j].toNat : Int) ≤ 122)) (fun i => s.size - (intOf i).toNat)
  case atStart => exact ⟨0, Nat.zero_le _, rfl, hid (fun j _ hj => absurd hj (Nat.not_lt_zero _))⟩
  case round =>
    obtain ⟨k, hk, rfl, HJ⟩ := hrel
    by_cases hlt : k < s.size
    · by_cases h3 : (s[k].toNat : Int) < 97
      · go_wp2
        go_ret
        exact ⟨ret_bool (nameOk_sign k hlt (by omega)).symm, rfl⟩
      · by_cases h4 : 122 < (s[k].toNat : Int)
        · go_wp2
          go_ret
          exact ⟨ret_bool (nameOk_sign k hlt (by omega)).symm, rfl⟩
        · have H3 : Hid (97 ≤ (s[k].toNat : Int) ∧ (s[k].toNat : Int) ≤ 122) := ⟨by omega, by omega⟩
          go_wp2
          go_round
          case rel =>
            refine ⟨k + 1, by omega, by go_num, hid (fun j h hj => ?_)⟩
            by_cases e : j = k
            · subst e; exact H3.out
            · exact HJ.out j h (by omega)
          case measure => simp [intOf]; omega
    · have HL : Hid (letters s) := fun j h => HJ.out j h (by omega)
      by_cases h1 : 1 ≤ s.size
      · by_cases h2 : s.size ≤ 8
        · have HN : Hid (nameOk s = (!(s.toList == [116, 114, 117, 101]) && !(s.toList == [102, 97, 108, 115, 101]) && !(s.toList == [115, 105, 108, 101, 110, 116]))) := nameOk_rest h1 h2 HL.out
          cases c1 : (s.toList == [116, 114, 117, 101])
          · cases c2 : (s.toList == [102, 97, 108, 115, 101])
            · go_wp2
              go_ret
              exact ⟨ret_bool (by rw [HN.out, c1, c2]; rfl), rfl⟩
            · go_wp2
              go_ret
              exact ⟨ret_bool (by rw [HN.out, c1, c2]; rfl), rfl⟩
          · go_wp2
            go_ret
            exact ⟨ret_bool (by rw [HN.out, c1]; rfl), rfl⟩
        · have HN : Hid (nameOk s = false) := nameOk_long h2
          go_wp2
          go_ret
          exact ⟨ret_bool HN.out.symm, rfl⟩
      · have HN : Hid (nameOk s = false) := nameOk_short h1
        go_wp2
        go_ret
        exact ⟨ret_bool HN.out.symm, rfl⟩

/-- N names lie at a. -/
def Nms (w : World) (a : Option Addr) (N : Nat) (M : Nat → ByteArray) : Prop :=
  ∃ b o, (0 < N → a = some ⟨b, o, none⟩) ∧ ∀ i, i < N → w.cell? ⟨b, o + i, none⟩ = some (.string (M i))

theorem Nms.keep {w w' : World} {a : Option Addr} {N : Nat} {M : Nat → ByteArray} (h : Nms w a N M) (hk : ∀ p v, w.cell? p = some v → w'.cell? p = some v) : Nms w' a N M := by
  obtain ⟨b, o, h1, h2⟩ := h
  exact ⟨b, o, h1, fun i hi => hk _ _ (h2 i hi)⟩
theorem Nms.below {w w' : World} {a : Option Addr} {N : Nat} {M : Nat → ByteArray} (h : Nms w a N M) (hb : Below w.heap.size w w') : Nms w' a N M := h.keep (fun _ _ hv => below_cell hb (Nat.le_refl _) hv)

/-- The number of the first of N names that is s, or -1. -/
def fnd (N : Nat) (M : Nat → ByteArray) (s : ByteArray) : Int :=
  match (List.range N).find? (fun i => s.toList == (M i).toList) with
  | some i => (i : Int)
  | none => -1

theorem fnd_hit {N k : Nat} {M : Nat → ByteArray} {s : ByteArray} (hk : k < N) (h : (s.toList == (M k).toList) = true) (hj : ∀ j, j < k → (s.toList == (M j).toList) = false) : fnd N M s = k := by
  have : (List.range N).find? (fun i => s.toList == (M i).toList) = some k := List.find?_range_eq_some.2 ⟨h, List.mem_range.2 hk, fun j h1 => by rw [hj j h1]; rfl⟩
  unfold fnd
  rw [this]

theorem fnd_none {N : Nat} {M : Nat → ByteArray} {s : ByteArray} (hj : ∀ j, j < N → (s.toList == (M j).toList) = false) : fnd N M s = -1 := by
  have : (List.range N).find? (fun i => s.toList == (M i).toList) = none := List.find?_range_eq_none.2 (fun j h1 => by rw [hj j h1]; rfl)
  unfold fnd
  rw [this]

theorem fnd_cases (N : Nat) (M : Nat → ByteArray) (s : ByteArray) : (fnd N M s = -1 ∧ ∀ j, j < N → (s.toList == (M j).toList) = false) ∨
    ∃ k : Nat, fnd N M s = k ∧ k < N ∧ (s.toList == (M k).toList) = true ∧ ∀ j, j < k → (s.toList == (M j).toList) = false := by
  cases h : (List.range N).find? (fun i => s.toList == (M i).toList) with
  | none =>
    refine Or.inl ⟨by unfold fnd; rw [h], fun j hj => ?_⟩
    have := List.find?_range_eq_none.1 h j hj
    simpa using this
  | some k =>
    obtain ⟨h1, h2, h3⟩ := List.find?_range_eq_some.1 h
    refine Or.inr ⟨k, by unfold fnd; rw [h], List.mem_range.1 h2, h1, fun j hj => ?_⟩
    have := h3 j hj
    simpa using this

set_option maxHeartbeats 400000 in
theorem index_any (a : Option Addr) (N c : Nat) (M : Nat → ByteArray) (s : ByteArray) (w : World) (hN : N ≤ 9223372036854775807) (h : Nms w a N M) :
    Calls Tryd.prog 70 #[.slice a N c, .string s] w fun e w' => e = .returned (.int .i64 (fnd N M s)) ∧ w' = w := by
  obtain ⟨b, o, ha, hc⟩ := h
  go_enter Tryd.func70, Tryd.ntmps70
  go_wp2
  go_loop [8] (fun i => ∃ k : Nat, k ≤ N ∧ i = .int .i64 k ∧ Hid (∀ j, j < k → (s.toList == (M j).toList) = false)) (fun i => N - (intOf i).toNat)
  case atStart => exact ⟨0, Nat.zero_le _, rfl, hid (fun j hj => absurd hj (Nat.not_lt_zero _))⟩
  case round =>
    obtain ⟨k, hk, rfl, H⟩ := hrel
    by_cases hlt : k < N
    · obtain rfl := ha (by omega)
      have hck := hc k hlt
      cases h1 : (s.toList == (M k).toList)
      · go_wp2
        go_round
        case rel => exact ⟨k + 1, by omega, by go_num, hid (snoc_all H.out h1)⟩
        case measure => simp [intOf]; omega
      · have E : Hid (fnd N M s = k) := fnd_hit hlt h1 H.out
        go_wp2
        go_ret
        exact ⟨ret_int E.out.symm, rfl⟩
    · have E : Hid (fnd N M s = -1) := fnd_none (fun j hj => H.out j (by omega))
      go_wp2
      go_ret
      exact ⟨ret_int E.out.symm, rfl⟩

/-- The word of atom 63. -/
def silW : ByteArray := ⟨#[115, 105, 108, 101, 110, 116]⟩
def sil (s : ByteArray) : Bool := s.toList == [115, 105, 108, 101, 110, 116]

/-- The atom that a word stands for, and whether there is one. -/
def atV (N : Nat) (M : Nat → ByteArray) (s : ByteArray) : Int := if sil s = true then 63 else if nameOk s = true then max (fnd (min N 63) M s) 0 else 0
def atB (N : Nat) (M : Nat → ByteArray) (s : ByteArray) : Bool := sil s || (nameOk s && decide (0 ≤ fnd (min N 63) M s))

set_option maxHeartbeats 400000 in
theorem atom_any (a : Option Addr) (N c : Nat) (M : Nat → ByteArray) (s : ByteArray) (w : World) (hN : N ≤ 9223372036854775807) (hc : N ≤ c) (hc2 : c ≤ 9223372036854775807) (h : Nms w a N M) :
    Calls Tryd.prog 61 #[.slice a N c, .string s] w fun e w' => e = .returned (.tuple #[.int .i64 (atV N M s), .bool (atB N M s)]) ∧ w' = w := by
  have HN : Hid (Nms w a N M) := h
  clear h
  cases h1 : (s.toList == [115, 105, 108, 101, 110, 116])
  · have hs : sil s = false := h1
    cases h2 : nameOk s
    · have C : Hid (Calls Tryd.prog 69 #[.string s] w fun e w' => e = .returned (.bool false) ∧ w' = w) := by rw [← h2]; exact isName_any s w
      have E : Hid (atV N M s = 0 ∧ atB N M s = false) := ⟨by simp [atV, hs, h2], by simp [atB, hs, h2]⟩
      clear h2 hs
      go_enter Tryd.func61, Tryd.ntmps61
      go_wp2_with fail
      refine C.out.mono ?_
      rintro e w' ⟨rfl, rfl⟩
      clear C
      go_wp2
      go_ret2
      exact ⟨by rw [E.out.1, E.out.2]; rfl, rfl⟩
    · have C : Hid (Calls Tryd.prog 69 #[.string s] w fun e w' => e = .returned (.bool true) ∧ w' = w) := by rw [← h2]; exact isName_any s w
      have C2 : Hid (Calls Tryd.prog 70 #[.slice a (min N 63) c, .string s] w fun e w' => e = .returned (.int .i64 (fnd (min N 63) M s)) ∧ w' = w) := by
        obtain ⟨b, o, h1, h2⟩ := HN.out
        exact index_any a (min N 63) c M s w (by omega) ⟨b, o, fun hh => h1 (by omega), fun i hi => h2 i (by omega)⟩
      have E0 : Hid (atV N M s = max (fnd (min N 63) M s) 0 ∧ atB N M s = decide (0 ≤ fnd (min N 63) M s)) := ⟨by simp [atV, hs, h2], by simp [atB, hs, h2]⟩
      obtain ⟨r, hr0⟩ : ∃ x, x = fnd (min N 63) M s := ⟨_, rfl⟩
      rw [← hr0] at C2
      have HR : Hid (r = fnd (min N 63) M s) := hr0
      clear hr0
      by_cases hN63 : 63 < N
      · rw [show min N 63 = 63 by omega] at C2
        by_cases hr : r < 0
        · have E : Hid (atV N M s = 0 ∧ atB N M s = decide (0 ≤ r)) := ⟨by rw [E0.out.1, ← HR.out]; omega, by rw [E0.out.2, ← HR.out]⟩
          clear h2 hs
          go_enter Tryd.func61, Tryd.ntmps61
          go_wp2_with fail
          refine C.out.mono ?_
          rintro e w' ⟨rfl, rfl⟩
          clear C
          go_wp2_with fail
          refine C2.out.mono ?_
          rintro e w' ⟨rfl, rfl⟩
          clear C2
          go_wp2
          go_ret2
          exact ⟨by rw [E.out.1, E.out.2]; rfl, rfl⟩
        · have E : Hid (atV N M s = r ∧ atB N M s = true) := ⟨by rw [E0.out.1, ← HR.out]; omega, by rw [E0.out.2, ← HR.out]; exact decide_eq_true (by omega)⟩
          clear h2 hs
          go_enter Tryd.func61, Tryd.ntmps61
          go_wp2_with fail
          refine C.out.mono ?_
          rintro e w' ⟨rfl, rfl⟩
          clear C
          go_wp2_with fail
          refine C2.out.mono ?_
          rintro e w' ⟨rfl, rfl⟩
          clear C2
          go_wp2
          go_ret2
          exact ⟨by rw [E.out.1, E.out.2]; rfl, rfl⟩
      · rw [show min N 63 = N by omega] at C2
        by_cases hr : r < 0
        · have E : Hid (atV N M s = 0 ∧ atB N M s = decide (0 ≤ r)) := ⟨by rw [E0.out.1, ← HR.out]; omega, by rw [E0.out.2, ← HR.out]⟩
          clear h2 hs
          go_enter Tryd.func61, Tryd.ntmps61
          go_wp2_with fail
          refine C.out.mono ?_
          rintro e w' ⟨rfl, rfl⟩
          clear C
          go_wp2_with fail
          refine C2.out.mono ?_
          rintro e w' ⟨rfl, rfl⟩
          clear C2
          go_wp2
          go_ret2
          exact ⟨by rw [E.out.1, E.out.2]; rfl, rfl⟩
        · have E : Hid (atV N M s = r ∧ atB N M s = true) := ⟨by rw [E0.out.1, ← HR.out]; omega, by rw [E0.out.2, ← HR.out]; exact decide_eq_true (by omega)⟩
          clear h2 hs
          go_enter Tryd.func61, Tryd.ntmps61
          go_wp2_with fail
          refine C.out.mono ?_
          rintro e w' ⟨rfl, rfl⟩
          clear C
          go_wp2_with fail
          refine C2.out.mono ?_
          rintro e w' ⟨rfl, rfl⟩
          clear C2
          go_wp2
          go_ret2
          exact ⟨by rw [E.out.1, E.out.2]; rfl, rfl⟩
  · have hs : sil s = true := h1
    have E : Hid (atV N M s = 63 ∧ atB N M s = true) := ⟨by simp [atV, hs], by simp [atB, hs]⟩
    clear hs
    go_enter Tryd.func61, Tryd.ntmps61
    go_wp2
    go_ret2
    exact ⟨by rw [E.out.1, E.out.2]; rfl, rfl⟩

/-- Is x the number of a name that stands for itself? -/
def nmOk (N : Nat) (M : Nat → ByteArray) (x : Nat) : Bool := decide (x < N) && nameOk (M x) && (List.range x).all (fun j => !((M j).toList == (M x).toList))

/-- Does an atom have a word, and which? -/
def wok (N : Nat) (M : Nat → ByteArray) (x : Nat) : Bool := decide (x = 63) || nmOk N M x
def wd (N : Nat) (M : Nat → ByteArray) (x : Nat) : ByteArray := if x = 63 then silW else if nmOk N M x = true then M x else ⟨#[]⟩

theorem nmOk_out {N : Nat} {M : Nat → ByteArray} {x : Nat} (h : nmOk N M x = true) : x < N ∧ nameOk (M x) = true ∧ ∀ j, j < x → ((M j).toList == (M x).toList) = false := by
  unfold nmOk at h
  simp only [Bool.and_eq_true, decide_eq_true_eq, List.all_eq_true, List.mem_range, Bool.not_eq_true'] at h
  exact ⟨h.1.1, h.1.2, h.2⟩
theorem nmOk_mk {N : Nat} {M : Nat → ByteArray} {x : Nat} (h1 : x < N) (h2 : nameOk (M x) = true) (h3 : ∀ j, j < x → ((M j).toList == (M x).toList) = false) : nmOk N M x = true := by
  unfold nmOk
  simp only [Bool.and_eq_true, decide_eq_true_eq, List.all_eq_true, List.mem_range, Bool.not_eq_true']
  exact ⟨⟨h1, h2⟩, h3⟩

theorem name_not_sil {s : ByteArray} (h : nameOk s = true) : sil s = false := by
  unfold nameOk at h
  simp only [Bool.and_eq_true, Bool.not_eq_true'] at h
  exact h.2

theorem beq_comm' (a b : List UInt8) : (a == b) = (b == a) := by
  by_cases h : a = b
  · subst h; rfl
  · rw [beq_eq_false_iff_ne.2 h, beq_eq_false_iff_ne.2 (fun hh => h hh.symm)]

/-- The word of an atom stands for it; and where none does, no name of that number stands for it. -/
theorem at_of_ok {N : Nat} {M : Nat → ByteArray} {x : Nat} (hx : x < 63) (h : nmOk N M x = true) : atV N M (M x) = x ∧ atB N M (M x) = true := by
  obtain ⟨h1, h2, h3⟩ := nmOk_out h
  have hs := name_not_sil h2
  have hf : fnd (min N 63) M (M x) = x := fnd_hit (by omega) (by simp) (fun j hj => by rw [beq_comm']; exact h3 j hj)
  simp only [atV, atB, hs, h2, hf]
  exact ⟨by simp, by simp⟩

theorem ok_of_at {N : Nat} {M : Nat → ByteArray} {x : Nat} (hx : x < 63) (hN : x < N) (h : atB N M (M x) = true) (h1 : atV N M (M x) = x) : nmOk N M x = true := by
  unfold atV at h1
  unfold atB at h
  cases hs : sil (M x)
  · rw [hs] at h h1
    cases hn : nameOk (M x)
    · rw [hn] at h; simp at h
    · rw [hn] at h h1
      simp only [Bool.false_or, Bool.true_and, decide_eq_true_eq, Bool.false_eq_true, if_false, if_true] at h h1
      rcases fnd_cases (min N 63) M (M x) with ⟨e, _⟩ | ⟨k, e, hk, h4, h5⟩
      · omega
      · have : k = x := by omega
        subst this
        exact nmOk_mk hN hn (fun j hj => by rw [beq_comm']; exact h5 j hj)
  · rw [hs] at h1
    simp at h1
    omega

set_option maxHeartbeats 400000 in
theorem word_any (a : Option Addr) (N c : Nat) (M : Nat → ByteArray) (x : Nat) (w : World) (hx : x ≤ 63) (hN : N ≤ 9223372036854775807) (hc : N ≤ c) (hc2 : c ≤ 9223372036854775807) (h : Nms w a N M) :
    Calls Tryd.prog 46 #[.slice a N c, .int .i64 x] w fun e w' => e = .returned (.tuple #[.string (wd N M x), .bool (wok N M x)]) ∧ w' = w := by
  by_cases h63 : x = 63
  · subst h63
    have E : Hid (wd N M 63 = silW ∧ wok N M 63 = true) := ⟨by simp [wd], by simp [wok]⟩
    clear h
    go_enter Tryd.func46, Tryd.ntmps46
    go_wp2
    go_ret2
    exact ⟨by rw [E.out.1, E.out.2]; rfl, rfl⟩
  have hx63 : x < 63 := by omega
  have b63 : ((x : Int) == 63) = false := beq_eq_false_iff_ne.2 (by omega)
  by_cases hxN : x < N
  · have C : Hid (Calls Tryd.prog 61 #[.slice a N c, .string (M x)] w fun e w' => e = .returned (.tuple #[.int .i64 (atV N M (M x)), .bool (atB N M (M x))]) ∧ w' = w) := atom_any a N c M (M x) w hN hc hc2 h
    obtain ⟨b, o, ha, hcell⟩ := h
    obtain rfl := ha (by omega)
    have hcx := hcell x hxN
    clear ha hcell
    have dx : decide ((x : Int) < 0) = false := decide_eq_false (by omega)
    have HOk : Hid (nmOk N M x = true → atV N M (M x) = x ∧ atB N M (M x) = true) := at_of_ok hx63
    have HOk2 : Hid (atB N M (M x) = true → atV N M (M x) = x → nmOk N M x = true) := ok_of_at hx63 hxN
    obtain ⟨v, hv⟩ : ∃ y, y = atV N M (M x) := ⟨_, rfl⟩
    obtain ⟨bb, hbb⟩ : ∃ y, y = atB N M (M x) := ⟨_, rfl⟩
    rw [← hv, ← hbb] at C HOk HOk2
    clear hv hbb
    cases bb
    · have hno : nmOk N M x = false := by
        cases hh : nmOk N M x
        · rfl
        · exact absurd (HOk.out hh).2 (by decide)
      have E : Hid (wd N M x = ⟨#[]⟩ ∧ wok N M x = false) := ⟨by simp [wd, hno, h63], by simp [wok, hno, h63]⟩
      clear hno h63
      go_enter Tryd.func46, Tryd.ntmps46
      go_wp2_with fail
      refine C.out.mono ?_
      rintro e w' ⟨rfl, rfl⟩
      clear C
      go_wp2
      go_ret2
      exact ⟨by rw [E.out.1, E.out.2]; rfl, rfl⟩
    · by_cases hvx : v = x
      · have hyes : nmOk N M x = true := HOk2.out rfl hvx
        have E : Hid (wd N M x = M x ∧ wok N M x = true) := ⟨by simp [wd, hyes, h63], by simp [wok, hyes]⟩
        have bv : (v == (x : Int)) = true := beq_iff_eq.2 hvx
        clear hyes h63 hvx
        go_enter Tryd.func46, Tryd.ntmps46
        go_wp2_with fail
        refine C.out.mono ?_
        rintro e w' ⟨rfl, rfl⟩
        clear C
        go_wp2
        go_ret2
        exact ⟨by rw [E.out.1, E.out.2]; rfl, rfl⟩
      · have hno : nmOk N M x = false := by
          cases hh : nmOk N M x
          · rfl
          · exact absurd (HOk.out hh).1 hvx
        have E : Hid (wd N M x = ⟨#[]⟩ ∧ wok N M x = false) := ⟨by simp [wd, hno, h63], by simp [wok, hno, h63]⟩
        have bv : (v == (x : Int)) = false := beq_eq_false_iff_ne.2 hvx
        clear hno h63 hvx
        go_enter Tryd.func46, Tryd.ntmps46
        go_wp2_with fail
        refine C.out.mono ?_
        rintro e w' ⟨rfl, rfl⟩
        clear C
        go_wp2
        go_ret2
        exact ⟨by rw [E.out.1, E.out.2]; rfl, rfl⟩
  · have hno : nmOk N M x = false := by
      cases hh : nmOk N M x
      · rfl
      · exact absurd (nmOk_out hh).1 hxN
    have E : Hid (wd N M x = ⟨#[]⟩ ∧ wok N M x = false) := ⟨by simp [wd, hno, h63], by simp [wok, hno, h63]⟩
    clear h hno h63
    go_enter Tryd.func46, Tryd.ntmps46
    go_wp2
    go_ret2
    exact ⟨by rw [E.out.1, E.out.2]; rfl, rfl⟩

end Go.Proofs.YtgpjlgffmlkkoaaDoor
