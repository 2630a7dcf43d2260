/- flowsFit; the first start; a look for a false. -/
import Derived.Test.YthpbgfodejoecaaProc2
namespace Go.Proofs.Ythpbgfodejoecaa
open Go.RowKit

def hasB (n : Nat) (B : Nat → Bool) (x : Bool) : Bool := decide (∃ i, i < n ∧ B i = x)

theorem hasB_no {n : Nat} {B : Nat → Bool} {x : Bool} (h : ∀ i, i < n → B i ≠ x) : hasB n B x = false := by
  unfold hasB
  rw [decide_eq_false_iff_not]
  rintro ⟨i, hi, e⟩
  exact h i hi e

theorem hasB_yes {n : Nat} {B : Nat → Bool} {x : Bool} (k : Nat) (hk : k < n) (e : B k = x) : hasB n B x = true := by
  unfold hasB
  rw [decide_eq_true_eq]
  exact ⟨k, hk, e⟩

set_option maxHeartbeats 400000 in
theorem indexB_any (a : Option Addr) (n c : Nat) (B : Nat → Bool) (w : World) (hn : n ≤ 140737488355328) (h : Rowb w a n B) :
    Calls Try.prog 42 #[.slice a n c, .bool false] w fun e w' => (∃ y : Int, e = .returned (.int .i64 y) ∧ hasB n B false = decide (0 ≤ y)) ∧ w' = w := by
  obtain ⟨b, o, ha, hc⟩ := h
  have HC : Hid (∀ i, i < n → w.cell? ⟨b, o + i, none⟩ = some (.bool (B i))) := hc
  clear hc
  go_enter Try.func42, Try.ntmps42
  go_wp2
  go_loop [8] (fun i => ∃ k : Nat, k ≤ n ∧ i = .int .i64 k ∧ Hid (∀ j, j < k → B j ≠ false)) (fun i => n - (intOf i).toNat)
  case atStart => exact ⟨0, Nat.zero_le _, rfl, hid (fun j hj => absurd hj (Nat.not_lt_zero _))⟩
  case round =>
    obtain ⟨k, hk, rfl, H⟩ := hrel
    by_cases hlt : k < n
    · obtain rfl := ha (by omega)
      have hck := HC.out k hlt
      have hzk : (k : Int) < n := by omega
      cases hb : B k
      · have E : Hid (B k = false) := hb
        rw [hb] at hck
        clear hb
        go_wp2
        go_ret
        exact ⟨⟨k, rfl, by rw [hasB_yes k hlt E.out]; simp⟩, rfl⟩
      · have E : Hid (B k ≠ false) := by show B k ≠ false; rw [hb]; decide
        rw [hb] at hck
        clear hb
        go_wp2
        go_round
        case rel => exact ⟨k + 1, by omega, by go_num, hid (snoc_all H.out E.out)⟩
        case measure => simp [intOf]; omega
    · go_wp2
      go_ret
      exact ⟨⟨-1, rfl, by rw [hasB_no (fun i hi => H.out i (by omega))]; rfl⟩, rfl⟩

theorem containsB_any (a : Option Addr) (n c : Nat) (B : Nat → Bool) (w : World) (hn : n ≤ 140737488355328) (h : Rowb w a n B) :
    Calls Try.prog 15 #[.slice a n c, .bool false] w fun e w' => e = .returned (.bool (hasB n B false)) ∧ w' = w := by
  have C : Hid (Calls Try.prog 42 #[.slice a n c, .bool false] w fun e w' => (∃ y : Int, e = .returned (.int .i64 y) ∧ hasB n B false = decide (0 ≤ y)) ∧ w' = w) := indexB_any a n c B w hn h
  clear h hn
  go_enter Try.func15, Try.ntmps15
  go_wp2_with fail
  refine C.out.mono ?_
  rintro e w' ⟨⟨y, rfl, hy⟩, rfl⟩
  have HY : Hid (hasB n B false = decide (0 ≤ y)) := hy
  clear hy C
  go_wp2
  go_ret
  exact ⟨ret_bool (by rw [HY.out]), rfl⟩

theorem startFn_any (s : ByteArray) (k : Int) (w : World) : Calls Try.prog 110 #[.agg #[.string s, .int .i64 k]] w fun e w' => e = .returned (.bool (k == 1)) ∧ Below w.heap.size w w' := by
  go_enter Try.func110, Try.ntmps110
  go_wp2
  go_ret
  exact ⟨rfl, box_below _ _⟩

set_option maxHeartbeats 400000 in
theorem start_any (a : Option Addr) (N c : Nat) (M : Nat → ByteArray) (K : Nat → Int) (w : World) (hN : N ≤ 140737488355328) (h : Nds w a N M K) (hex : ∃ i, i < N ∧ K i = 1) :
    Calls Try.prog 109 #[.slice a N c, .func (.func 110) #[] #[]] w fun e w' => (∃ r : Nat, e = .returned (.int .i64 r) ∧ r < N ∧ K r = 1) ∧ Below w.heap.size w w' := by
  obtain ⟨b, o, ha, hc⟩ := h
  have HC : Hid (∀ i, i < N → w.cell? ⟨b, o + i * 2, none⟩ = some (.string (M i)) ∧ w.cell? ⟨b, o + i * 2 + 1, none⟩ = some (.int .i64 (K i))) := hc
  have HX : Hid (∃ i, i < N ∧ K i = 1) := hex
  clear hc hex
  go_enter Try.func109, Try.ntmps109
  go_wp2
  go_loopw [8] (fun i wr => ∃ k : Nat, k ≤ N ∧ i = .int .i64 k ∧ Hid (∀ j, j < k → K j ≠ 1) ∧ Hid (Below w.heap.size w wr)) (fun i _ => N - (intOf i).toNat)
  case atStart => exact ⟨0, Nat.zero_le _, rfl, hid (fun j hj => absurd hj (Nat.not_lt_zero _)), Below.refl _ _⟩
  case round =>
    obtain ⟨k, hk, rfl, HJ, HB⟩ := hrel
    by_cases hlt : k < N
    · obtain rfl := ha (by omega)
      obtain ⟨h1, h2⟩ := Nds.at HC.out HB.out hlt
      have hzk : (k : Int) < N := by omega
      have C : Hid (Calls Try.prog 110 #[.agg #[.string (M k), .int .i64 (K k)]] wr fun e w' => e = .returned (.bool (K k == 1)) ∧ Below wr.heap.size wr w') := startFn_any (M k) (K k) wr
      go_wp2_with fail
      refine C.out.mono ?_
      rintro e w1 ⟨rfl, hb1⟩
      have HB1 : Hid (Below w.heap.size w w1) := HB.out.trans (hb1.mono HB.out.size)
      clear hb1 h1 h2 C
      by_cases e : K k = 1
      · have HE : Hid (K k = 1) := e
        have e' : (K k == 1) = true := beq_iff_eq.2 e
        clear e
        go_wp2
        go_ret
        exact ⟨⟨k, rfl, hlt, HE.out⟩, HB1.out⟩
      · have HE : Hid (K k ≠ 1) := e
        have e' : (K k == 1) = false := beq_eq_false_iff_ne.2 e
        clear e
        go_wp2
        go_roundw
        case rel => exact ⟨k + 1, by omega, by go_num, hid (snoc_all HJ.out HE.out), HB1.out⟩
        case measure => simp [intOf]; omega
    · obtain ⟨i, hi, e⟩ := HX.out
      exact absurd e (HJ.out i (by omega))

theorem endsOk_all {N F : Nat} {A B : Nat → Int} (h : endsOk N F A B = true) : ∀ i, i < F → (0 ≤ A i ∧ A i < N) ∧ (0 ≤ B i ∧ B i < N) := by
  unfold endsOk at h
  exact of_decide_eq_true h

theorem below_drewn {B : Nat} {w w' : World} (h : Below B w w') (q : Nat) : Below B w (w'.drewN q) := h.trans ⟨rfl, rfl, rfl, Nat.le_refl _, fun _ _ => rfl⟩

/-- Has each node as many flows as its kind asks? -/
def fitAll (N F : Nat) (K A B : Nat → Int) : Bool := decide (∀ i : Nat, i < N → fitOk (K i) (tally B i F) (tally A i F) = true)

theorem fitAll_no {N F : Nat} {K A B : Nat → Int} (k : Nat) (hk : k < N) (h : fitOk (K k) (tally B k F) (tally A k F) = false) : fitAll N F K A B = false := by
  unfold fitAll
  rw [decide_eq_false_iff_not]
  intro hh
  have := hh k hk
  rw [h] at this
  cases this

theorem fitAll_yes {N F : Nat} {K A B : Nat → Int} (h : ∀ i : Nat, i < N → fitOk (K i) (tally B i F) (tally A i F) = true) : fitAll N F K A B = true := by
  unfold fitAll
  rw [decide_eq_true_eq]
  exact h

theorem zeros_get (i : Nat) (hi : i < 20) : (#[.int .i64 0, .int .i64 0, .int .i64 0, .int .i64 0, .int .i64 0, .int .i64 0, .int .i64 0, .int .i64 0, .int .i64 0, .int .i64 0, .int .i64 0, .int .i64 0, .int .i64 0, .int .i64 0, .int .i64 0, .int .i64 0, .int .i64 0, .int .i64 0, .int .i64 0, .int .i64 0] : Array Value)[i]? = some (.int .i64 0) := by
  match i, hi with
  | 0, _ => rfl
  | 1, _ => rfl
  | 2, _ => rfl
  | 3, _ => rfl
  | 4, _ => rfl
  | 5, _ => rfl
  | 6, _ => rfl
  | 7, _ => rfl
  | 8, _ => rfl
  | 9, _ => rfl
  | 10, _ => rfl
  | 11, _ => rfl
  | 12, _ => rfl
  | 13, _ => rfl
  | 14, _ => rfl
  | 15, _ => rfl
  | 16, _ => rfl
  | 17, _ => rfl
  | 18, _ => rfl
  | 19, _ => rfl
  | n + 20, h => exact absurd h (by omega)

/-- The two counters of flowsFit, behind k flows. -/
structure Fit (w wr : World) (na fa : Option Addr) (N nc F fc : Nat) (A B : Nat → Int) (k : Nat) : Prop where
  below : Below (w.heap.size + 1) (w.alloc (.cells #[.slice na N nc, .slice fa F fc] 25)) wr
  ins : wr.rowIs (w.heap.size + 1) 157 20 (fun i => .int .i64 (tally B i k : Nat))
  outs : wr.rowIs (w.heap.size + 1 + 1) 157 20 (fun i => .int .i64 (tally A i k : Nat))

theorem fit_start (w : World) (na fa : Option Addr) (N nc F fc : Nat) (A B : Nat → Int) :
    Fit w (((w.alloc (.cells #[.slice na N nc, .slice fa F fc] 25)).alloc (.cells #[.int .i64 0, .int .i64 0, .int .i64 0, .int .i64 0, .int .i64 0, .int .i64 0, .int .i64 0, .int .i64 0, .int .i64 0, .int .i64 0, .int .i64 0, .int .i64 0, .int .i64 0, .int .i64 0, .int .i64 0, .int .i64 0, .int .i64 0, .int .i64 0, .int .i64 0, .int .i64 0] 157)).alloc (.cells #[.int .i64 0, .int .i64 0, .int .i64 0, .int .i64 0, .int .i64 0, .int .i64 0, .int .i64 0, .int .i64 0, .int .i64 0, .int .i64 0, .int .i64 0, .int .i64 0, .int .i64 0, .int .i64 0, .int .i64 0, .int .i64 0, .int .i64 0, .int .i64 0, .int .i64 0, .int .i64 0] 157)) na fa N nc F fc A B 0 := by
  refine ⟨((Below.refl _ _).alloc (by simp) _).alloc (by simp) _, ?_, ?_⟩
  · exact (rowIs_lit (w.alloc (.cells #[.slice na N nc, .slice fa F fc] 25)) #[.int .i64 0, .int .i64 0, .int .i64 0, .int .i64 0, .int .i64 0, .int .i64 0, .int .i64 0, .int .i64 0, .int .i64 0, .int .i64 0, .int .i64 0, .int .i64 0, .int .i64 0, .int .i64 0, .int .i64 0, .int .i64 0, .int .i64 0, .int .i64 0, .int .i64 0, .int .i64 0] 157 (w.heap.size + 1) 20 (fun _ => .int .i64 0) (by simp) rfl zeros_get).alloc _
  · exact rowIs_lit ((w.alloc (.cells #[.slice na N nc, .slice fa F fc] 25)).alloc (.cells #[.int .i64 0, .int .i64 0, .int .i64 0, .int .i64 0, .int .i64 0, .int .i64 0, .int .i64 0, .int .i64 0, .int .i64 0, .int .i64 0, .int .i64 0, .int .i64 0, .int .i64 0, .int .i64 0, .int .i64 0, .int .i64 0, .int .i64 0, .int .i64 0, .int .i64 0, .int .i64 0] 157)) #[.int .i64 0, .int .i64 0, .int .i64 0, .int .i64 0, .int .i64 0, .int .i64 0, .int .i64 0, .int .i64 0, .int .i64 0, .int .i64 0, .int .i64 0, .int .i64 0, .int .i64 0, .int .i64 0, .int .i64 0, .int .i64 0, .int .i64 0, .int .i64 0, .int .i64 0, .int .i64 0] 157 (w.heap.size + 1 + 1) 20 (fun _ => .int .i64 0) (by simp) rfl zeros_get

theorem tally_step (X : Nat → Int) (x k i : Nat) (h : X k = x) : tally X i (k + 1) = if i = x then tally X x k + 1 else tally X i k := by
  by_cases e : i = x
  · subst e
    rw [if_pos rfl, tally_hit h]
  · rw [if_neg e, tally_miss (by omega)]

theorem Fit.step {w wr : World} {na fa : Option Addr} {N nc F fc : Nat} {A B : Nat → Int} {k : Nat} (h : Fit w wr na fa N nc F fc A B k) (o : Obj) {x y : Nat} (hB : B k = x) (hA : A k = y) :
    Fit w (((wr.setCell ⟨w.heap.size + 1, x, none⟩ (.int .i64 ((tally B x k : Nat) + 1))).setCell ⟨w.heap.size + 1 + 1, y, none⟩ (.int .i64 ((tally A y k : Nat) + 1))).alloc o) na fa N nc F fc A B (k + 1) := by
  have hlt := h.outs.lt
  refine ⟨((h.below.setCell (by show w.heap.size + 1 ≤ w.heap.size + 1; omega) _).setCell (by show w.heap.size + 1 ≤ w.heap.size + 1 + 1; omega) _).alloc (by simp [World.setCell]; omega) _, ?_, ?_⟩
  · refine (((h.ins.set x _).setOther (by show w.heap.size + 1 ≠ w.heap.size + 1 + 1; omega) _).alloc o).congr (fun i _ => ?_)
    rw [tally_step B x k i hB]
    by_cases e : i = x
    · subst e
      simp
    · simp [e]
  · refine (((h.outs.setOther (by show w.heap.size + 1 + 1 ≠ w.heap.size + 1; omega) _).set y _).alloc o).congr (fun i _ => ?_)
    rw [tally_step A y k i hA]
    by_cases e : i = y
    · subst e
      simp
    · simp [e]

set_option maxHeartbeats 1000000 in
theorem flowsFit_any (na fa : Option Addr) (N nc F fc : Nat) (M : Nat → ByteArray) (K A B : Nat → Int) (w : World) (hN : N ≤ 20) (hF : F ≤ 30) (hn : Nds w na N M K) (hf : Fls w fa F A B) (he : endsOk N F A B = true) :
    Calls Try.prog 80 #[.agg #[.slice na N nc, .slice fa F fc]] w fun e w' => e = .returned (.bool (fitAll N F K A B)) ∧ Below w.heap.size w w' := by
  have HN : Hid (Nds w na N M K) := hn
  have HF : Hid (Fls w fa F A B) := hf
  have HE : Hid (∀ i, i < F → (0 ≤ A i ∧ A i < N) ∧ (0 ≤ B i ∧ B i < N)) := endsOk_all he
  clear hn hf he
  go_enter Try.func80, Try.ntmps80
  go_wp2
  go_loopw [12] (fun i wr => ∃ k : Nat, k ≤ F ∧ i = .int .i64 k ∧ Hid (Fit w wr na fa N nc F fc A B k)) (fun i _ => F - (intOf i).toNat)
  case atStart => exact ⟨0, Nat.zero_le _, rfl, fit_start w na fa N nc F fc A B⟩
  case round =>
    obtain ⟨k, hk, rfl, HT⟩ := hrel
    have HB : Hid (Below w.heap.size w wr) := (box_below _ _).trans (HT.out.below.mono (by omega))
    have hs2 : w.heap.size + 1 + 1 < wr.heap.size := HT.out.outs.lt
    have hs1 : w.heap.size + 1 < wr.heap.size := by omega
    by_cases hlt : k < F
    · obtain ⟨b, o, ha, hc⟩ := HF.out
      obtain rfl := ha (by omega)
      obtain ⟨h1, h2⟩ := Fls.at hc HB.out hlt
      have hE := HE.out k hlt
      obtain ⟨x, hx⟩ : ∃ x : Nat, B k = x := ⟨(B k).toNat, by omega⟩
      obtain ⟨y, hy⟩ : ∃ y : Nat, A k = y := ⟨(A k).toNat, by omega⟩
      have hx20 : x < 20 := by omega
      have hy20 : y < 20 := by omega
      have hx20' : (x : Int) < 20 := by omega
      have hy20' : (y : Int) < 20 := by omega
      have HX : Hid (B k = x ∧ A k = y) := ⟨hx, hy⟩
      rw [hx] at h2
      rw [hy] at h1
      have h3 : wr.cell? ⟨w.heap.size + 1, x, none⟩ = some (.int .i64 (tally B x k : Nat)) := HT.out.ins.cell hx20
      have h4 := HT.out.ins.frozen x
      have h5 : wr.cell? ⟨w.heap.size + 1 + 1, y, none⟩ = some (.int .i64 (tally A y k : Nat)) := HT.out.outs.cell hy20
      have h6 := HT.out.outs.frozen y
      have h7 := tally_le B x k
      have h8 := tally_le A y k
      have HT2 : Hid (Fit w (((wr.setCell ⟨w.heap.size + 1, x, none⟩ (.int .i64 ((tally B x k : Nat) + 1))).setCell ⟨w.heap.size + 1 + 1, y, none⟩ (.int .i64 ((tally A y k : Nat) + 1))).alloc (.cells #[.int .i64 y, .int .i64 x] 86)) na (some ⟨b, o, none⟩) N nc F fc A B (k + 1)) := HT.out.step _ hx hy
      clear hc ha hE hx hy HT
      go_wp2
      go_roundw
      case rel => exact ⟨k + 1, by omega, by go_num, HT2.out⟩
      case measure => simp [intOf]; omega
    · obtain rfl : F = k := by omega
      obtain ⟨w3, e3⟩ : ∃ x, x = wr := ⟨_, rfl⟩
      rw [← e3] at HT HB
      rw [← e3]
      clear e3 hs2 hs1
      have hp0 : w3.cell? ⟨w.heap.size, 0, none⟩ = some (.slice na N nc) := by rw [HT.out.below.cell (p := ⟨w.heap.size, 0, none⟩) (by show w.heap.size < w.heap.size + 1; omega)]; exact cell_of_alloc rfl
      go_wp2
      go_loopw [32] (fun i wr => ∃ k : Nat, k ≤ N ∧ i = .int .i64 k ∧ Hid (∀ j : Nat, j < k → fitOk (K j) (tally B j F) (tally A j F) = true) ∧ Hid (Below w3.heap.size w3 wr)) (fun i _ => N - (intOf i).toNat)
      case atStart => exact ⟨0, Nat.zero_le _, rfl, hid (fun j hj => absurd hj (Nat.not_lt_zero _)), Below.refl _ _⟩
      case round =>
        obtain ⟨k, hk, rfl, HJ, HB4⟩ := hrel
        have HBw : Hid (Below w.heap.size w wr) := HB.out.trans (HB4.out.mono HB.out.size)
        have hsz : w3.heap.size ≤ wr.heap.size := HB4.out.size
        have hs3 : w.heap.size + 1 + 1 < w3.heap.size := HT.out.outs.lt
        have hs4 : w.heap.size + 1 + 1 < wr.heap.size := by omega
        have hs5 : w.heap.size + 1 < wr.heap.size := by omega
        by_cases hlt : k < N
        · obtain ⟨b, o, ha, hc⟩ := HN.out
          obtain rfl := ha (by omega)
          obtain ⟨h1, h2⟩ := Nds.at hc HBw.out hlt
          have h3 : wr.cell? ⟨w.heap.size + 1, k, none⟩ = some (.int .i64 (tally B k F : Nat)) := by rw [HB4.out.cell (p := ⟨w.heap.size + 1, k, none⟩) (by show w.heap.size + 1 < w3.heap.size; omega)]; exact HT.out.ins.cell (by omega)
          have h4 : wr.cell? ⟨w.heap.size + 1 + 1, k, none⟩ = some (.int .i64 (tally A k F : Nat)) := by rw [HB4.out.cell (p := ⟨w.heap.size + 1 + 1, k, none⟩) (by show w.heap.size + 1 + 1 < w3.heap.size; omega)]; exact HT.out.outs.cell (by omega)
          have hk20 : (k : Int) < 20 := by omega
          have C : Hid (∀ u, Calls Try.prog 108 #[.int .i64 (K k), .int .i64 (tally B k F : Nat), .int .i64 (tally A k F : Nat)] u fun e w' => e = .returned (.bool (fitOk (K k) (tally B k F) (tally A k F))) ∧ w' = u) := fun u => countsFit_any (K k) _ _ u (by have := tally_le B k F; omega) (by have := tally_le A k F; omega)
          clear hc ha
          generalize htB : tally B k F = tB at *
          generalize htA : tally A k F = tA at *
          have HTT : Hid (tally B k F = tB ∧ tally A k F = tA) := ⟨htB, htA⟩
          clear htA htB
          cases hb : fitOk (K k) tB tA
          · have HE2 : Hid (fitOk (K k) (tally B k F) (tally A k F) = false) := by show fitOk (K k) (tally B k F) (tally A k F) = false; rw [HTT.out.1, HTT.out.2]; exact hb
            rw [hb] at C
            clear hb
            go_wp2
            go_quiet (first | (go_at_call 108; exact Calls.quiet_of_same (C.out _)))
            go_wp2
            go_ret
            exact ⟨ret_bool (fitAll_no k hlt HE2.out).symm, below_drewn (HBw.out.alloc HBw.out.size _) _⟩
          · have HE2 : Hid (fitOk (K k) (tally B k F) (tally A k F) = true) := by show fitOk (K k) (tally B k F) (tally A k F) = true; rw [HTT.out.1, HTT.out.2]; exact hb
            rw [hb] at C
            clear hb
            go_wp2
            go_quiet (first | (go_at_call 108; exact Calls.quiet_of_same (C.out _)))
            go_wp2
            go_roundw
            case rel => exact ⟨k + 1, by omega, by go_num, hid (snoc_all HJ.out HE2.out), below_drewn (HB4.out.alloc HB4.out.size _) _⟩
            case measure => simp [intOf]; omega
        · go_wp2
          go_ret
          exact ⟨ret_bool (fitAll_yes (fun i hi => HJ.out i (by omega))).symm, HBw.out⟩

end Go.Proofs.Ythpbgfodejoecaa
