/- The document's answer: Named, In, FlowsIn, FlowsOut. Rounds over all flows: what is seen behind so many rounds as there are nodes is all that can be come to. -/
import Derived.Test.YthpbgfodejoecaaProc7
namespace Go.Proofs.Ythpbgfodejoecaa
open Go.RowKit

set_option maxHeartbeats 400000 in
theorem inRef_any (a : Option Addr) (n c : Nat) (Z : Nat → Int) (m : Int) (w : World) (hn : n ≤ 140737488355328) (h : Row w a n Z) :
    Calls Try.prog 90 #[.slice a n c, .int .i64 m] w fun e w' => e = .returned (.bool (allIn n Z m)) ∧ w' = w := by
  obtain ⟨b, o, ha, hc⟩ := h
  go_enter Try.func90, Try.ntmps90
  go_wp2
  go_loop [5] (fun i => ∃ k : Nat, k ≤ n ∧ i = .int .i64 k ∧ Hid (∀ j, j < k → 0 ≤ Z j ∧ Z j < m)) (fun i => n - (intOf i).toNat)
  case atStart => exact ⟨0, Nat.zero_le _, rfl, hid (fun j hj => absurd hj (Nat.not_lt_zero _))⟩
  case round =>
    obtain ⟨k, hk, rfl, H⟩ := hrel
    by_cases hlt : k < n
    · obtain rfl := ha (by omega)
      have hck := hc k hlt
      by_cases h1 : Z k < 0
      · go_wp2
        go_ret
        exact ⟨ret_bool (allIn_no k hlt (Or.inl h1)).symm, rfl⟩
      · by_cases h2 : m ≤ Z k
        · go_wp2
          go_ret
          exact ⟨ret_bool (allIn_no k hlt (Or.inr h2)).symm, rfl⟩
        · go_wp2
          go_round
          case rel => exact ⟨k + 1, by omega, by go_num, hid (snoc_all H.out ⟨by omega, by omega⟩)⟩
          case measure => simp [intOf]; omega
    · go_wp2
      go_ret
      exact ⟨ret_bool (allIn_yes (fun i hi => H.out i (by omega))).symm, rfl⟩

set_option maxHeartbeats 1000000 in
theorem named_any (s : ByteArray) (w : World) (hs : s.size ≤ 9223372036854775807) :
    Calls Try.prog 89 #[.string s] w fun e w' => e = .returned (.bool (nameOk s)) ∧ w' = w := by
  go_enter Try.func89, Try.ntmps89
  go_wp2
  go_loop [3] (fun i => ∃ k : Nat, k ≤ s.size ∧ i = .int .i64 k ∧ Hid (∀ j (h : j < s.size), j < k → 97 ≤ (s[j].toNat : Int) ∧ (s[j].toNat : Int) ≤ 122)) (fun i => s.size - (intOf i).toNat)
  case atStart => exact ⟨0, Nat.zero_le _, rfl, hid (fun j _ hj => absurd hj (Nat.not_lt_zero _))⟩
  case round =>
    obtain ⟨k, hk, rfl, HJ⟩ := hrel
    by_cases hlt : k < s.size
    · by_cases h3 : (s[k].toNat : Int) < 97
      · go_wp2
        go_ret
        exact ⟨ret_bool (nameOk_sign k hlt (by omega)).symm, rfl⟩
      · by_cases h4 : 122 < (s[k].toNat : Int)
        · go_wp2
          go_ret
          exact ⟨ret_bool (nameOk_sign k hlt (by omega)).symm, rfl⟩
        · have H3 : Hid (97 ≤ (s[k].toNat : Int) ∧ (s[k].toNat : Int) ≤ 122) := ⟨by omega, by omega⟩
          go_wp2
          go_round
          case rel =>
            refine ⟨k + 1, by omega, by go_num, hid (fun j h hj => ?_)⟩
            by_cases e : j = k
            · subst e; exact H3.out
            · exact HJ.out j h (by omega)
          case measure => simp [intOf]; omega
    · have HL : Hid (letters s) := fun j h => HJ.out j h (by omega)
      by_cases h1 : 1 ≤ s.size
      · by_cases h2 : s.size ≤ 8
        · have HN : Hid (nameOk s = (!(s.toList == [116, 114, 117, 101]) && !(s.toList == [102, 97, 108, 115, 101]) && !(s.toList == [115, 105, 108, 101, 110, 116]))) := nameOk_rest h1 h2 HL.out
          cases c1 : (s.toList == [116, 114, 117, 101])
          · cases c2 : (s.toList == [102, 97, 108, 115, 101])
            · go_wp2
              go_ret
              exact ⟨ret_bool (by rw [HN.out, c1, c2]; rfl), rfl⟩
            · go_wp2
              go_ret
              exact ⟨ret_bool (by rw [HN.out, c1, c2]; rfl), rfl⟩
          · go_wp2
            go_ret
            exact ⟨ret_bool (by rw [HN.out, c1]; rfl), rfl⟩
        · have HN : Hid (nameOk s = false) := nameOk_long h2
          go_wp2
          go_ret
          exact ⟨ret_bool HN.out.symm, rfl⟩
      · have HN : Hid (nameOk s = false) := nameOk_short h1
        go_wp2
        go_ret
        exact ⟨ret_bool HN.out.symm, rfl⟩

set_option maxHeartbeats 1000000 in
theorem flowsIn_any (na fa : Option Addr) (N nc F fc : Nat) (A B : Nat → Int) (x : Int) (w : World) (hf : Fls w fa F A B) (hF : F ≤ 30) :
    Calls Try.prog 54 #[.agg #[.slice na N nc, .slice fa F fc], .int .i64 x] w fun e w' => Below w.heap.size w w' ∧ ∃ a c, e = .returned (.slice a (tally B x F) c) ∧ Row w' a (tally B x F) (fun i => (fl B x F).getD i 0) := by
  have HF : Hid (Fls w fa F A B) := hf
  clear hf
  obtain ⟨i0, hi, hz0, hz1, hz2⟩ := info_parts Try.info3
  have HI : Hid (Try.prog.info? 3 = some i0 ∧ i0.zero = some (.int .i64 0) ∧ i0.size = 1 ∧ i0.bytes = 8) := ⟨hi, hz0, hz1, hz2⟩
  clear hi hz0 hz1 hz2
  obtain ⟨W, eW⟩ : ∃ x, x = w.alloc (.cells #[.slice na N nc, .slice fa F fc] 25) := ⟨_, rfl⟩
  have HW : Hid (Below w.heap.size w W ∧ W.heap.size = w.heap.size + 1) := by subst eW; exact ⟨box_below _ _, by simp⟩
  have HBx : Hid (∀ w1, Below W.heap.size W w1 → w1.cell? ⟨w.heap.size, 0, none⟩ = some (.slice na N nc) ∧ w1.cell? ⟨w.heap.size, 1, none⟩ = some (.slice fa F fc)) := fun w1 h => by
    have h' : Below (w.heap.size + 1) (w.alloc (.cells #[.slice na N nc, .slice fa F fc] 25)) w1 := by rw [← HW.out.2, ← eW]; exact h
    exact ⟨box_keep h' rfl, box_keep h' rfl⟩
  have HEW : Hid (w.alloc (.cells #[.slice na N nc, .slice fa F fc] 25) = W) := eW.symm
  clear eW
  go_enter Try.func54, Try.ntmps54
  go_wp2
  rw [HEW.out]
  go_loopw [5, 6] (fun v i wr => ∃ (k : Nat) (va : Option Addr) (vc : Nat), k ≤ F ∧ i = .int .i64 k ∧ v = .slice va (tally B x k) vc ∧ Hid (Below W.heap.size W wr ∧ wr.ownsRow W.heap.size 3 1 (.slice va (tally B x k) vc) (tally B x k) (vals (fl B x k)))) (fun _ i _ => F - (intOf i).toNat)
  case atStart => exact ⟨0, none, 0, Nat.zero_le _, rfl, rfl, hid ⟨Below.refl _ _, World.ownsRow_nil _ _ _ _⟩⟩
  case round =>
    obtain ⟨k, va, vc, hk, rfl, rfl, HS⟩ := hrel
    have HBw : Hid (Below w.heap.size w wr) := HW.out.1.trans (HS.out.1.mono HW.out.1.size)
    obtain ⟨hc0, hc1⟩ := HBx.out wr HS.out.1
    by_cases hlt : k < F
    · obtain ⟨b, o, ha, hc⟩ := HF.out
      obtain rfl := ha (by omega)
      obtain ⟨h1, h2⟩ := Fls.at hc HBw.out hlt
      clear hc ha
      have hfz := tally_le B x k
      have hkz : (k : Int) < F := by omega
      have HSz : Hid (W.heap.size ≤ wr.heap.size) := HS.out.1.size
      by_cases hX : B k = x
      · have HXk : Hid (B k = x) := hX
        have hX' : (B k == x) = true := beq_iff_eq.2 hX
        have HO : Hid (wr.ownsRow W.heap.size 3 1 (.slice va (tally B x k) vc) (tally B x k) (vals (fl B x k))) := HS.out.2
        clear hX
        go_wp2_with (at_builtin; refine wpList_append_own_at _ rfl _ _ 26 rfl W.heap.size 3 i0 (.int .i64 0) 1 8 Try.underlying26 HI.out.1 HI.out.2.1 HI.out.2.2.1 HI.out.2.2.2 rfl (by decide) _ _ _ rfl (HO.out.alloc _) ⟨wr.heap.size, 0, none⟩ 1 1 [.int .i64 k] rfl rfl (cell_one_new _ _ _) (ints_oneCell .i64 [(k : Int)]) (by unfold maxLen; omega) (by omega) (by have := HSz.out; simp; omega) ?_; intro v' w4 hown hgrow _ _; obtain ⟨⟨a4, c4, rfl⟩, H4⟩ := fl_step HS.out.1 HO.out HXk.out hown hgrow; clear hown hgrow)
        go_roundw
        case rel => exact ⟨k + 1, a4, c4, by omega, by go_num, by rw [tally_hit HXk.out], hid ⟨H4.out.1, by have := H4.out.2; rw [tally_hit HXk.out] at this ⊢; exact this⟩⟩
        case measure => simp [intOf]; omega
      · have HXk : Hid (B k ≠ x) := hX
        have hX' : (B k == x) = false := beq_eq_false_iff_ne.2 hX
        clear hX
        go_wp2
        go_roundw
        case rel => exact ⟨k + 1, va, vc, by omega, by go_num, by rw [tally_miss HXk.out], hid ⟨HS.out.1, by have := HS.out.2; rw [tally_miss HXk.out, fl_miss HXk.out]; exact this⟩⟩
        case measure => simp [intOf]; omega
    · obtain rfl : F = k := by omega
      go_wp2
      go_ret
      exact ⟨HBw.out, _, _, rfl, fl_row HS.out.2⟩

set_option maxHeartbeats 1000000 in
theorem flowsOut_any (na fa : Option Addr) (N nc F fc : Nat) (A B : Nat → Int) (x : Int) (w : World) (hf : Fls w fa F A B) (hF : F ≤ 30) :
    Calls Try.prog 55 #[.agg #[.slice na N nc, .slice fa F fc], .int .i64 x] w fun e w' => Below w.heap.size w w' ∧ ∃ a c, e = .returned (.slice a (tally A x F) c) ∧ Row w' a (tally A x F) (fun i => (fl A x F).getD i 0) := by
  have HF : Hid (Fls w fa F A B) := hf
  clear hf
  obtain ⟨i0, hi, hz0, hz1, hz2⟩ := info_parts Try.info3
  have HI : Hid (Try.prog.info? 3 = some i0 ∧ i0.zero = some (.int .i64 0) ∧ i0.size = 1 ∧ i0.bytes = 8) := ⟨hi, hz0, hz1, hz2⟩
  clear hi hz0 hz1 hz2
  obtain ⟨W, eW⟩ : ∃ x, x = w.alloc (.cells #[.slice na N nc, .slice fa F fc] 25) := ⟨_, rfl⟩
  have HW : Hid (Below w.heap.size w W ∧ W.heap.size = w.heap.size + 1) := by subst eW; exact ⟨box_below _ _, by simp⟩
  have HBx : Hid (∀ w1, Below W.heap.size W w1 → w1.cell? ⟨w.heap.size, 0, none⟩ = some (.slice na N nc) ∧ w1.cell? ⟨w.heap.size, 1, none⟩ = some (.slice fa F fc)) := fun w1 h => by
    have h' : Below (w.heap.size + 1) (w.alloc (.cells #[.slice na N nc, .slice fa F fc] 25)) w1 := by rw [← HW.out.2, ← eW]; exact h
    exact ⟨box_keep h' rfl, box_keep h' rfl⟩
  have HEW : Hid (w.alloc (.cells #[.slice na N nc, .slice fa F fc] 25) = W) := eW.symm
  clear eW
  go_enter Try.func55, Try.ntmps55
  go_wp2
  rw [HEW.out]
  go_loopw [5, 6] (fun v i wr => ∃ (k : Nat) (va : Option Addr) (vc : Nat), k ≤ F ∧ i = .int .i64 k ∧ v = .slice va (tally A x k) vc ∧ Hid (Below W.heap.size W wr ∧ wr.ownsRow W.heap.size 3 1 (.slice va (tally A x k) vc) (tally A x k) (vals (fl A x k)))) (fun _ i _ => F - (intOf i).toNat)
  case atStart => exact ⟨0, none, 0, Nat.zero_le _, rfl, rfl, hid ⟨Below.refl _ _, World.ownsRow_nil _ _ _ _⟩⟩
  case round =>
    obtain ⟨k, va, vc, hk, rfl, rfl, HS⟩ := hrel
    have HBw : Hid (Below w.heap.size w wr) := HW.out.1.trans (HS.out.1.mono HW.out.1.size)
    obtain ⟨hc0, hc1⟩ := HBx.out wr HS.out.1
    by_cases hlt : k < F
    · obtain ⟨b, o, ha, hc⟩ := HF.out
      obtain rfl := ha (by omega)
      obtain ⟨h1, h2⟩ := Fls.at hc HBw.out hlt
      clear hc ha
      have hfz := tally_le A x k
      have hkz : (k : Int) < F := by omega
      have HSz : Hid (W.heap.size ≤ wr.heap.size) := HS.out.1.size
      by_cases hX : A k = x
      · have HXk : Hid (A k = x) := hX
        have hX' : (A k == x) = true := beq_iff_eq.2 hX
        have HO : Hid (wr.ownsRow W.heap.size 3 1 (.slice va (tally A x k) vc) (tally A x k) (vals (fl A x k))) := HS.out.2
        clear hX
        go_wp2_with (at_builtin; refine wpList_append_own_at _ rfl _ _ 26 rfl W.heap.size 3 i0 (.int .i64 0) 1 8 Try.underlying26 HI.out.1 HI.out.2.1 HI.out.2.2.1 HI.out.2.2.2 rfl (by decide) _ _ _ rfl (HO.out.alloc _) ⟨wr.heap.size, 0, none⟩ 1 1 [.int .i64 k] rfl rfl (cell_one_new _ _ _) (ints_oneCell .i64 [(k : Int)]) (by unfold maxLen; omega) (by omega) (by have := HSz.out; simp; omega) ?_; intro v' w4 hown hgrow _ _; obtain ⟨⟨a4, c4, rfl⟩, H4⟩ := fl_step HS.out.1 HO.out HXk.out hown hgrow; clear hown hgrow)
        go_roundw
        case rel => exact ⟨k + 1, a4, c4, by omega, by go_num, by rw [tally_hit HXk.out], hid ⟨H4.out.1, by have := H4.out.2; rw [tally_hit HXk.out] at this ⊢; exact this⟩⟩
        case measure => simp [intOf]; omega
      · have HXk : Hid (A k ≠ x) := hX
        have hX' : (A k == x) = false := beq_eq_false_iff_ne.2 hX
        clear hX
        go_wp2
        go_roundw
        case rel => exact ⟨k + 1, va, vc, by omega, by go_num, by rw [tally_miss HXk.out], hid ⟨HS.out.1, by have := HS.out.2; rw [tally_miss HXk.out, fl_miss HXk.out]; exact this⟩⟩
        case measure => simp [intOf]; omega
    · obtain rfl : F = k := by omega
      go_wp2
      go_ret
      exact ⟨HBw.out, _, _, rfl, fl_row HS.out.2⟩

end Go.Proofs.Ythpbgfodejoecaa

namespace Go.Proofs.Ythpbgfodejoecaa
open Go.RowKit

def updB (s : Nat → Bool) (x : Nat) : Nat → Bool := fun i => if i = x then true else s i

def cntB (s : Nat → Bool) : Nat → Nat
  | 0 => 0
  | n + 1 => cntB s n + if s n = true then 1 else 0

theorem cntB_le (s : Nat → Bool) : ∀ n, cntB s n ≤ n
  | 0 => Nat.le_refl _
  | n + 1 => by
    have := cntB_le s n
    unfold cntB
    split <;> omega

theorem updB_same {s : Nat → Bool} {x : Nat} (h : s x = true) : updB s x = s := by
  funext i
  unfold updB
  split
  · rename_i e; rw [e, h]
  · rfl

theorem cntB_past (s : Nat → Bool) (x : Nat) : ∀ n, n ≤ x → cntB (updB s x) n = cntB s n
  | 0, _ => rfl
  | n + 1, h => by
    have e : updB s x n = s n := by simp [updB]; omega
    simp only [cntB, cntB_past s x n (by omega), e]

theorem cntB_upd {s : Nat → Bool} {x : Nat} (h : s x = false) : ∀ n, x < n → cntB (updB s x) n = cntB s n + 1
  | n + 1, hx => by
    by_cases e : x = n
    · subst e
      simp [cntB, cntB_past s x x (Nat.le_refl _), updB, h]
    · have ih := cntB_upd h n (by omega)
      have e2 : updB s x n = s n := by simp [updB]; omega
      simp only [cntB, ih, e2]
      omega

def closed (F : Nat) (A B : Nat → Int) (s : Nat → Bool) : Prop := ∀ j, j < F → s (A j).toNat = true → s (B j).toNat = true

/-- Behind r rounds. -/
def Ot (N F : Nat) (A B : Nat → Int) (s : Nat → Bool) (r : Nat) : Prop := closed F A B s ∨ r + 1 ≤ cntB s N

/-- In a round that began with s0, behind i flows. -/
def Rd (N F : Nat) (A B : Nat → Int) (s0 s : Nat → Bool) (i : Nat) : Prop :=
  (s = s0 ∧ ∀ j, j < i → s0 (A j).toNat = true → s0 (B j).toNat = true) ∨ (¬ closed F A B s0 ∧ cntB s0 N + 1 ≤ cntB s N)

theorem rd_start (N F : Nat) (A B : Nat → Int) (s0 : Nat → Bool) : Rd N F A B s0 s0 0 := Or.inl ⟨rfl, fun _ hj => absurd hj (Nat.not_lt_zero _)⟩

theorem rd_no {N F : Nat} {A B : Nat → Int} {s0 s : Nat → Bool} {i : Nat} (h : Rd N F A B s0 s i) (hs : s (A i).toNat = false) : Rd N F A B s0 s (i + 1) := by
  rcases h with ⟨rfl, h⟩ | h
  · refine Or.inl ⟨rfl, fun j hj hA => ?_⟩
    by_cases e : j = i
    · subst e; rw [hs] at hA; cases hA
    · exact h j (by omega) hA
  · exact Or.inr h

theorem rd_yes {N F : Nat} {A B : Nat → Int} {s0 s : Nat → Bool} {i x : Nat} (h : Rd N F A B s0 s i) (hi : i < F) (hs : s (A i).toNat = true) (hx : (B i).toNat = x) (hxN : x < N) : Rd N F A B s0 (updB s x) (i + 1) := by
  cases e : s x
  · have hc := cntB_upd e N hxN
    rcases h with ⟨rfl, h⟩ | ⟨h1, h2⟩
    · refine Or.inr ⟨fun hcl => ?_, by omega⟩
      have := hcl i hi hs
      rw [hx, e] at this
      cases this
    · exact Or.inr ⟨h1, by omega⟩
  · rw [updB_same e]
    rcases h with ⟨rfl, h⟩ | h
    · refine Or.inl ⟨rfl, fun j hj hA => ?_⟩
      by_cases ej : j = i
      · subst ej; rw [hx]; exact e
      · exact h j (by omega) hA
    · exact Or.inr h

theorem rd_end {N F : Nat} {A B : Nat → Int} {s0 s : Nat → Bool} {r : Nat} (h : Rd N F A B s0 s F) (h0 : Ot N F A B s0 r) : Ot N F A B s (r + 1) := by
  rcases h with ⟨rfl, h⟩ | ⟨h1, h2⟩
  · exact Or.inl h
  · rcases h0 with h0 | h0
    · exact absurd h0 h1
    · exact Or.inr (by omega)

theorem ot_end {N F : Nat} {A B : Nat → Int} {s : Nat → Bool} (h : Ot N F A B s N) : closed F A B s := by
  rcases h with h | h
  · exact h
  · have := cntB_le s N; omega

/-- What is seen can be come to. -/
def Snd (N F : Nat) (K A B : Nat → Int) (s : Nat → Bool) : Prop := ∀ x, s x = true → ∃ k, Wk (fun s => s < N ∧ K s = 1) (fun x y => ∃ i, i < F ∧ A i = x ∧ B i = y) k x

theorem snd_start {N F : Nat} {K A B : Nat → Int} {r : Nat} (hr : r < N) (hK : K r = 1) : Snd N F K A B (updB (fun _ => false) r) := by
  intro x hx
  by_cases e : x = r
  · subst e; exact ⟨0, hr, hK⟩
  · simp [updB, e] at hx

theorem snd_step {N F : Nat} {K A B : Nat → Int} {s : Nat → Bool} {i x y : Nat} (h : Snd N F K A B s) (hi : i < F) (hy : A i = y) (hx : B i = x) (hs : s y = true) : Snd N F K A B (updB s x) := by
  intro z hz
  by_cases e : z = x
  · subst e
    obtain ⟨k, hk⟩ := h y hs
    exact ⟨k + 1, y, hk, i, hi, hy, hx⟩
  · exact h z (by simpa [updB, e] using hz)

theorem seen_end {N F : Nat} {K A B : Nat → Int} {s : Nat → Bool} {r : Nat} (hT : tally K 1 N = 1) (hr : r < N) (hK : K r = 1) (hsr : s r = true) (hc : closed F A B s) (hS : Snd N F K A B s) : hasB N s false = false ↔ allCome N F K A B := by
  have all : ∀ k x, Wk (fun s => s < N ∧ K s = 1) (fun x y => ∃ i, i < F ∧ A i = x ∧ B i = y) k x → s x = true := by
    intro k
    induction k with
    | zero =>
      intro x hx
      rw [tally_uniq hT hx.1 hr hx.2 hK]
      exact hsr
    | succ k ih =>
      intro x hx
      obtain ⟨y, hy, i, hi, h1, h2⟩ := hx
      have := hc i hi (by rw [h1]; exact ih y hy)
      rw [h2] at this
      exact this
  constructor
  · intro h x hx
    refine hS x ?_
    cases e : s x
    · rw [hasB_yes x hx e] at h; cases h
    · rfl
  · intro h
    refine hasB_no (fun i hi => ?_)
    obtain ⟨k, hk⟩ := h i hi
    rw [all k i hk]
    decide

theorem ot_start {N F : Nat} {A B : Nat → Int} {r : Nat} (hr : r < N) : Ot N F A B (updB (fun _ => false) r) 0 := by
  right
  rw [cntB_upd rfl N hr]
  omega

theorem fnd_neg {N : Nat} {M : Nat → ByteArray} {s : ByteArray} {k : Nat} (hk : k < N) (h : ((M k).toList == s.toList) = true) : fnd N M s ≠ -1 := by
  unfold fnd
  split
  · omega
  · rename_i e
    have := List.find?_range_eq_none.1 e k hk
    rw [h] at this
    cases this

/-- The number of the start, if one has been met. -/
def StIs (K : Nat → Int) (k : Nat) (z : Int) : Prop := 0 < tally K 1 k → ∃ r : Nat, z = r ∧ r < k ∧ K r = 1

theorem stIs_hit {K : Nat → Int} {k : Nat} (h : K k = 1) : StIs K (k + 1) k := fun _ => ⟨k, rfl, by omega, h⟩
theorem stIs_miss {K : Nat → Int} {k : Nat} {z : Int} (h : K k ≠ 1) (hs : StIs K k z) : StIs K (k + 1) z := fun hp => by
  rw [tally_miss h] at hp
  obtain ⟨r, h1, h2, h3⟩ := hs hp
  exact ⟨r, h1, by omega, h3⟩

end Go.Proofs.Ythpbgfodejoecaa
