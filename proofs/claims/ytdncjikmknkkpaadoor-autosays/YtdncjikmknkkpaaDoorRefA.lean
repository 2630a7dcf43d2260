/- The document's leaves: In, Word, At, Letter, Marked, Auto. -/
import Derived.Test.YtdncjikmknkkpaaDoorChk
import Derived.Test.YtdncjikmknkkpaaDoorAut
import Derived.Deep.Heap
namespace Go.Proofs.YtdncjikmknkkpaaDoor
open Go.RowKit

set_option maxHeartbeats 400000 in
theorem inRef_any (a : Option Addr) (n c : Nat) (Z : Nat → Int) (m : Int) (w : World) (hn : n ≤ 140737488355328) (h : Row w a n Z) :
    Calls Tryd.prog 20 #[.slice a n c, .int .i64 m] w fun e w' => e = .returned (.bool (allIn n Z m)) ∧ w' = w := by
  obtain ⟨b, o, ha, hc⟩ := h
  go_enter Tryd.func20, Tryd.ntmps20
  go_wp2
  go_loop [5] (fun i => ∃ k : Nat, k ≤ n ∧ i = .int .i64 k ∧ Hid (∀ j, j < k → 0 ≤ Z j ∧ Z j < m)) (fun i => n - (intOf i).toNat)
  case atStart => exact ⟨0, Nat.zero_le _, rfl, hid (fun j hj => absurd hj (Nat.not_lt_zero _))⟩
  case round =>
    obtain ⟨k, hk, rfl, H⟩ := hrel
    by_cases hlt : k < n
    · obtain rfl := ha (by omega)
      have hck := hc k hlt
      by_cases h1 : Z k < 0
      · go_wp2
        go_ret
        exact ⟨ret_bool (allIn_no k hlt (Or.inl h1)).symm, rfl⟩
      · by_cases h2 : m ≤ Z k
        · go_wp2
          go_ret
          exact ⟨ret_bool (allIn_no k hlt (Or.inr h2)).symm, rfl⟩
        · go_wp2
          go_round
          case rel => exact ⟨k + 1, by omega, by go_num, hid (snoc_all H.out ⟨by omega, by omega⟩)⟩
          case measure => simp [intOf]; omega
    · go_wp2
      go_ret
      exact ⟨ret_bool (allIn_yes (fun i hi => H.out i (by omega))).symm, rfl⟩

set_option maxHeartbeats 400000 in
theorem wordRef_any (sa : Option Addr) (s sc : Nat) (la : Option Addr) (m lc : Nat) (w : World) (hs : s ≤ 140737488355328) (hm : m ≤ 140737488355328) :
    Calls Tryd.prog 11 #[.agg #[.slice sa s sc, .slice la m lc]] w fun e w' => e = .returned (.int .i64 (wchk s m)) ∧ Below w.heap.size w w' := by
  by_cases h1 : 60 < s
  · have E : Hid (wchk s m = 2) := if_pos (by omega)
    go_enter Tryd.func11, Tryd.ntmps11
    go_wp2
    go_ret
    exact ⟨ret_int E.out.symm, box_below _ _⟩
  by_cases h3 : 60 < s + m
  · have E : Hid (wchk s m = 2) := if_pos h3
    go_enter Tryd.func11, Tryd.ntmps11
    go_wp2
    go_ret
    exact ⟨ret_int E.out.symm, box_below _ _⟩
  by_cases h2 : m = 0
  · have E : Hid (wchk s m = 1) := (if_neg h3).trans (if_pos h2)
    subst h2
    go_enter Tryd.func11, Tryd.ntmps11
    go_wp2
    go_ret
    exact ⟨ret_int E.out.symm, box_below _ _⟩
  · have E : Hid (wchk s m = 0) := (if_neg h3).trans (if_neg h2)
    have h2b : ((m : Int) == 0) = false := beq_eq_false_iff_ne.2 (by omega)
    go_enter Tryd.func11, Tryd.ntmps11
    go_wp2
    go_ret
    exact ⟨ret_int E.out.symm, box_below _ _⟩

set_option maxHeartbeats 1000000 in
theorem atRef_any {sa : Option Addr} {s sc : Nat} {la : Option Addr} {m lc : Nat} {S L : Nat → Int} {w : World} (hw : Wd w sa s la m S L) (h60 : s + m ≤ 60) (hm : 0 < m) (i : Nat) (hi : i ≤ 1000000) :
    Calls Tryd.prog 34 #[.agg #[.slice sa s sc, .slice la m lc], .int .i64 i] w fun e w' => e = .returned (.int .u64 (ltr s m S L i)) ∧ Below w.heap.size w w' := by
  obtain ⟨sb, so, hsa, hsc⟩ := hw.stem
  obtain ⟨lb, lo, hla, hlc⟩ := hw.loop
  obtain rfl := hla hm
  have HS := hid hsc
  have HL := hid hlc
  clear hsc hlc hla hw
  by_cases h1 : i < s
  · obtain rfl := hsa (by omega)
    have hc := HS.out i h1
    have hl : sb < w.heap.size := World.block_lt_of_cell? _ _ hc
    have E : Hid (ltr s m S L i = S i) := ltr_stem h1
    rw [E.out]
    clear hsa
    go_enter Tryd.func34, Tryd.ntmps34
    go_wp2
    go_ret
    exact ⟨rfl, box_below _ _⟩
  by_cases h2 : i < s + m
  · have hc := HL.out (i - s) (by omega)
    have hl : lb < w.heap.size := World.block_lt_of_cell? _ _ hc
    have E : Hid (ltr s m S L i = L (i - s)) := by
      have := ltr_loop (S := S) (L := L) (s := s) (m := m) (i := i - s) (by omega)
      rw [show s + (i - s) = i by omega] at this
      exact this
    rw [E.out]
    have e1 : (i : Int) - s = ((i - s : Nat) : Int) := by omega
    go_enter Tryd.func34, Tryd.ntmps34
    go_wp2
    go_ret
    exact ⟨rfl, box_below _ _⟩
  · have hr := Nat.mod_lt (i - s) hm
    have hc := HL.out ((i - s) % m) hr
    have hl : lb < w.heap.size := World.block_lt_of_cell? _ _ hc
    have E : Hid (ltr s m S L i = L ((i - s) % m)) := ltr_far (by omega)
    rw [E.out]
    have e1 : (i : Int) - s = ((i - s : Nat) : Int) := by omega
    have e2 : ((i - s : Nat) : Int) % (m : Int) = ((i - s) % m : Nat) := by omega
    generalize (i - s) % m = r at *
    go_enter Tryd.func34, Tryd.ntmps34
    go_wp2
    go_quiet (fail)
    go_wp2
    go_ret
    exact ⟨rfl, below_drewN (box_below _ _) _⟩

theorem fts_letter (l m : Nat) (hl : l < 18446744073709551616) (hm : m < 18446744073709551616) : (m &&& (18446744073709551616 - (l + 1)) = 0) ↔ l &&& m = m := by
  have tb : ∀ i, (18446744073709551616 - (l + 1)).testBit i = (decide (i < 64) && !l.testBit i) := fun i => Nat.testBit_two_pow_sub_succ (n := 64) hl i
  constructor
  · intro h
    apply Nat.eq_of_testBit_eq
    intro i
    have := congrArg (fun z => z.testBit i) h
    simp only [Nat.testBit_and, tb, Nat.zero_testBit] at this
    rw [Nat.testBit_and]
    by_cases hi : i < 64
    · simp [hi] at this
      cases h1 : m.testBit i <;> cases h2 : l.testBit i <;> simp_all
    · have : m.testBit i = false := Nat.testBit_lt_two_pow (Nat.lt_of_lt_of_le hm (Nat.pow_le_pow_right (n := 2) (i := 64) (j := i) (by omega) (by omega)))
      simp [this]
  · intro h
    apply Nat.eq_of_testBit_eq
    intro i
    have := congrArg (fun z => z.testBit i) h
    simp only [Nat.testBit_and] at this
    simp only [Nat.testBit_and, tb, Nat.zero_testBit]
    cases h1 : m.testBit i <;> cases h2 : l.testBit i <;> simp_all

set_option maxHeartbeats 1000000 in
theorem letterRef_any (A : Ax) (q l : Nat) (w : World) (h : Aw w A) (hl : l < 18446744073709551616) (hM : q < A.M) (hO : q < A.O) :
    Calls Tryd.prog 33 #[A.val, .int .i64 q, .int .u64 l] w fun e w' => e = .returned (.bool (fts l (A.Mu q) (A.No q))) ∧ Below w.heap.size w w' := by
  obtain ⟨b, o, ha, hc⟩ := h.must
  obtain ⟨b2, o2, ha2, hc2⟩ := h.nots
  have hmu := h.mu q hM
  have hno := h.no q hO
  have hcm := hc q hM
  have hcn := hc2 q hO
  have m47 := h.m47
  have o47 := h.o47
  clear h hc hc2
  obtain ⟨sa, sn, sc, na, G, nc, ma, M, mc, oa, O, oc, fa, K, fc, S, L, Z, Mu, No, FL, FZ⟩ := A
  dsimp only [Ax.val] at *
  obtain rfl := ha (by omega)
  obtain rfl := ha2 (by omega)
  clear ha ha2
  have hlb : b < w.heap.size := World.block_lt_of_cell? _ _ hcm
  have hlb2 : b2 < w.heap.size := World.block_lt_of_cell? _ _ hcn
  have F1 := hid (fts_letter l (Mu q) hl hmu)
  have E1 := hid (bits_andNot_u64_nat (Mu q) l hmu hl)
  have E2 := hid (bits_and_u64_nat (No q) l hno hl)
  by_cases g1 : l &&& Mu q = Mu q
  · by_cases g2 : l &&& No q = 0
    · have E : Hid (fts l (Mu q) (No q) = true) := hid (by simp [fts, g1, g2])
      have e1 : (bits BinOp.andNot IntKind.u64 (Mu q : Int) (l : Int) == 0) = true := by rw [E1.out, F1.out.2 g1]; simp
      have e2 : (bits BinOp.and IntKind.u64 (No q : Int) (l : Int) == 0) = true := by rw [E2.out, Nat.and_comm, g2]; simp
      clear g1 g2
      go_enter Tryd.func33, Tryd.ntmps33
      go_wp2
      go_ret
      exact ⟨ret_bool E.out.symm, box_below _ _⟩
    · have E : Hid (fts l (Mu q) (No q) = false) := hid (by simp [fts, g2])
      have e1 : (bits BinOp.andNot IntKind.u64 (Mu q : Int) (l : Int) == 0) = true := by rw [E1.out, F1.out.2 g1]; simp
      have e2 : (bits BinOp.and IntKind.u64 (No q : Int) (l : Int) == 0) = false := by rw [E2.out, Nat.and_comm]; simp; omega
      clear g1 g2
      go_enter Tryd.func33, Tryd.ntmps33
      go_wp2
      go_ret
      exact ⟨ret_bool E.out.symm, box_below _ _⟩
  · have E : Hid (fts l (Mu q) (No q) = false) := hid (by simp [fts, g1])
    have e1 : (bits BinOp.andNot IntKind.u64 (Mu q : Int) (l : Int) == 0) = false := by
      rw [E1.out]
      have : ¬ (Mu q &&& (18446744073709551616 - (l + 1)) = 0) := fun hh => g1 (F1.out.1 hh)
      exact beq_eq_false_iff_ne.2 (by omega)
    clear g1
    go_enter Tryd.func33, Tryd.ntmps33
    go_wp2
    go_ret
    exact ⟨ret_bool E.out.symm, box_below _ _⟩

theorem rowIs_rowB {w : World} {b n : Nat} {F : Nat → Bool} (h : w.rowIs b 4 n (fun i => .bool (F i))) : RowB w (some ⟨b, 0, none⟩) n F :=
  ⟨b, 0, fun _ => rfl, fun i hi => by rw [Nat.zero_add]; exact h.cell hi⟩
theorem Tryd.info4 : (Tryd.prog.info? 4).map (fun i => (i.zero, i.size, i.bytes)) = some (some (.bool false), 1, 1) := by kernel_rfl

set_option maxHeartbeats 1000000 in
theorem markedRef_any (a : Option Addr) (n c : Nat) (Z : Nat → Int) (N : Nat) (w : World) (hn : n ≤ 140737488355328) (h : Row w a n Z) (hN : N ≤ 2048) (hin : allIn n Z N = true) :
    Calls Tryd.prog 35 #[.slice a n c, .int .i64 N] w fun e w' => e = .returned (.slice (some ⟨w.heap.size, 0, none⟩) N N) ∧ w'.rowIs w.heap.size 4 N (fun i => .bool (has n Z i)) ∧ Below w.heap.size w w' := by
  have hmk := run_make_row' (P := Tryd.prog) 67 4 (.bool false) 1 Tryd.underlying67 Tryd.info4 rfl .i64 .i64 N (by omega) (by omega)
  obtain ⟨b, o, ha, hc⟩ := h
  have HC := hid hc
  have HA := hid (allIn_all hin)
  clear hc hin
  go_enter Tryd.func35, Tryd.ntmps35
  go_wp2
  clear hmk
  go_loopw [6] (fun i wr => ∃ k : Nat, k ≤ n ∧ i = .int .i64 k ∧ Hid (Below w.heap.size w wr ∧ wr.rowIs w.heap.size 4 N (fun x => .bool (has k Z x)))) (fun i _ => n - (intOf i).toNat)
  case atStart => exact ⟨0, Nat.zero_le _, rfl, hid ⟨box_below _ _, (World.rowIs_made w (.bool false) N 4).congr (fun i _ => by rw [has_no (fun i hi => absurd hi (Nat.not_lt_zero i))])⟩⟩
  case round =>
    obtain ⟨k, hk, rfl, H⟩ := hrel
    by_cases hlt : k < n
    · obtain rfl := ha (by omega)
      have hz := HA.out k hlt
      obtain ⟨t, ht⟩ : ∃ t : Nat, Z k = t := ⟨(Z k).toNat, by omega⟩
      have htN : t < N := by omega
      have hck : wr.cell? ⟨b, o + k, none⟩ = some (.int .i64 t) := by rw [← ht]; exact below_cell H.out.1 (Nat.le_refl _) (HC.out k hlt)
      have htz : (t : Int) < N := by omega
      have hct := H.out.2.cell htN
      have hfz := H.out.2.frozen t
      have Ht := hid ht
      clear ht hz
      go_wp2
      go_roundw
      case rel =>
        refine ⟨k + 1, by omega, by go_num, hid ⟨H.out.1.setCell (by simp) _, (H.out.2.set t _).congr (fun i hi => ?_)⟩⟩
        by_cases e : i = t
        · subst e
          rw [if_pos rfl, has_yes k (by omega) Ht.out]
        · rw [if_neg e]
          by_cases e2 : has k Z i = true
          · have := e2
            unfold has at this
            rw [decide_eq_true_eq] at this
            obtain ⟨j, h1, h2⟩ := this
            rw [e2, has_yes j (by omega) h2]
          · rw [Bool.not_eq_true] at e2
            rw [e2, has_no]
            intro j hj hzj
            by_cases e3 : j = k
            · subst e3; rw [Ht.out] at hzj; omega
            · rw [has_yes j (by omega) hzj] at e2; cases e2
      case measure => simp [intOf]; omega
    · go_wp2
      go_ret
      obtain rfl : k = n := by omega
      exact ⟨rfl, H.out.2, H.out.1⟩

set_option maxHeartbeats 4000000 in
theorem autoRef_any (A : Ax) (w : World) (h : Aw w A) : Calls Tryd.prog 8 #[A.val] w fun e w' => e = .returned (.int .i64 (chkA A)) ∧ Below w.heap.size w w' := by
  have H := hid h
  have g47 := h.g47
  have k47 := h.k47
  have m47 := h.m47
  have o47 := h.o47
  have s47 := h.s47
  clear h
  by_cases h1 : 2048 < A.G ∨ 80 < A.K
  · have E : Hid (chkA A = 2) := hid (if_pos h1)
    obtain ⟨sa, sn, sc, na, G, nc, ma, M, mc, oa, O, oc, fa, K, fc, S, L, Z, Mu, No, FL, FZ⟩ := A
    dsimp only [Ax.val] at *
    by_cases h2 : 2048 < G
    · have h3 : (2048 : Int) < G := by omega
      go_enter Tryd.func8, Tryd.ntmps8
      go_wp2
      go_ret
      exact ⟨ret_int E.out.symm, box_below _ _⟩
    · have h3 : ¬ (2048 : Int) < G := by omega
      have h4 : (80 : Int) < K := by omega
      go_enter Tryd.func8, Tryd.ntmps8
      go_wp2
      go_ret
      exact ⟨ret_int E.out.symm, box_below _ _⟩
  by_cases h2 : A.M ≠ A.G ∨ A.O ≠ A.G
  · have E : Hid (chkA A = 1) := hid ((if_neg h1).trans (if_pos h2))
    obtain ⟨sa, sn, sc, na, G, nc, ma, M, mc, oa, O, oc, fa, K, fc, S, L, Z, Mu, No, FL, FZ⟩ := A
    dsimp only [Ax.val] at *
    have h3 : ¬ (2048 : Int) < G := by omega
    have h4 : ¬ (80 : Int) < K := by omega
    by_cases h5 : M = G
    · have h6 : ((M : Int) != (G : Int)) = false := by rw [h5]; simp
      have h7 : ((O : Int) != (G : Int)) = true := by simp; omega
      clear h1 h2 h5
      go_enter Tryd.func8, Tryd.ntmps8
      go_wp2
      go_ret
      exact ⟨ret_int E.out.symm, box_below _ _⟩
    · have h6 : ((M : Int) != (G : Int)) = true := by simp; omega
      clear h1 h2 h5
      go_enter Tryd.func8, Tryd.ntmps8
      go_wp2
      go_ret
      exact ⟨ret_int E.out.symm, box_below _ _⟩
  · have hM : A.M = A.G := by omega
    have hO : A.O = A.G := by omega
    have E : Hid (chkA A = if allIn A.sn A.S A.G = true ∧ okL A.G A.L A.Z A.G = true ∧ okL A.K A.FL A.FZ A.G = true then 0 else 1) := hid ((if_neg h1).trans (if_neg h2))
    have hG : ¬ 2048 < A.G := by omega
    have hK : ¬ 80 < A.K := by omega
    clear h1 h2
    obtain ⟨sa, sn, sc, na, G, nc, ma, M, mc, oa, O, oc, fa, K, fc, S, L, Z, Mu, No, FL, FZ⟩ := A
    dsimp only [Ax.val] at *
    subst hM
    subst hO
    have h3 : ¬ (2048 : Int) < O := by omega
    have h4 : ¬ (80 : Int) < K := by omega
    have HBX := hid (box_below w (.cells #[.slice sa sn sc, .slice na O nc, .slice ma O mc, .slice oa O oc, .slice fa K fc] 26))
    have HN := hid (H.out.below HBX.out)
    have C1 := hid (inRef_any sa sn sc S O _ s47 HN.out.start)
    have hn1 : (w.alloc (.cells #[.slice sa sn sc, .slice na O nc, .slice ma O mc, .slice oa O oc, .slice fa K fc] 26)).cell? ⟨w.heap.size, 1, none⟩ = some (.slice na O nc) := cell_of_alloc rfl
    have hn4 : (w.alloc (.cells #[.slice sa sn sc, .slice na O nc, .slice ma O mc, .slice oa O oc, .slice fa K fc] 26)).cell? ⟨w.heap.size, 4, none⟩ = some (.slice fa K fc) := cell_of_alloc rfl
    clear H
    have HS := hid HN.out.start
    obtain ⟨nb, no, hna, hnc⟩ := HN.out.next
    obtain ⟨fb, fo, hfa, hfc⟩ := HN.out.fair
    have HL47 := hid HN.out.l47
    have HF47 := hid HN.out.f47
    clear HN
    cases q1 : allIn sn S O
    · rw [q1, if_neg (by simp)] at E
      rw [q1] at C1
      clear hnc hfc
      go_enter Tryd.func8, Tryd.ntmps8
      go_wp2_with fail
      refine C1.out.mono ?_
      rintro e w1 ⟨rfl, rfl⟩
      go_wp2
      go_ret
      exact ⟨ret_int E.out.symm, HBX.out⟩
    · rw [q1] at E C1
      have HNC := hid hnc
      have HFC := hid hfc
      clear hnc hfc q1
      go_enter Tryd.func8, Tryd.ntmps8
      go_wp2_with fail
      refine C1.out.mono ?_
      generalize w.alloc (.cells #[.slice sa sn sc, .slice na O nc, .slice ma O mc, .slice oa O oc, .slice fa K fc] 26) = W at *
      rintro e w1 ⟨rfl, rfl⟩
      go_wp2
      go_loop [4] (fun i => ∃ k : Nat, k ≤ O ∧ i = .int .i64 k ∧ Hid (∀ j, j < k → allIn (L j) (Z j) O = true)) (fun i => O - (intOf i).toNat)
      case atStart => exact ⟨0, Nat.zero_le _, rfl, hid (fun j hj => absurd hj (Nat.not_lt_zero _))⟩
      case round =>
        obtain ⟨k, hk, rfl, HR⟩ := hrel
        by_cases hlt : k < O
        · obtain rfl := hna (by omega)
          obtain ⟨ka, kc, hck, hrk⟩ := HNC.out k hlt
          have C2 := hid (inRef_any ka (L k) kc (Z k) O _ (HL47.out k hlt) hrk)
          clear hrk
          cases q2 : allIn (L k) (Z k) O
          · have E2 := hid (okL_no k hlt q2)
            rw [q2] at C2
            rw [E2.out, if_neg (by simp)] at E
            clear q2 E2
            go_wp2_with fail
            refine C2.out.mono ?_
            rintro e w1 ⟨rfl, rfl⟩
            go_wp2
            go_ret
            exact ⟨ret_int E.out.symm, HBX.out⟩
          · have Q2 := hid q2
            rw [q2] at C2
            clear q2
            go_wp2_with fail
            refine C2.out.mono ?_
            rintro e w1 ⟨rfl, rfl⟩
            go_wp2
            go_round
            case rel => exact ⟨k + 1, by omega, by go_num, hid (snoc_all HR.out Q2.out)⟩
            case measure => simp [intOf]; omega
        · have E2 := hid (okL_yes (K := O) (FL := L) (FZ := Z) (G := O) (fun r hr => HR.out r (by omega)))
          rw [E2.out] at E
          clear HR E2
          go_wp2
          go_loop [5] (fun i => ∃ k : Nat, k ≤ K ∧ i = .int .i64 k ∧ Hid (∀ j, j < k → allIn (FL j) (FZ j) O = true)) (fun i => K - (intOf i).toNat)
          case atStart => exact ⟨0, Nat.zero_le _, rfl, hid (fun j hj => absurd hj (Nat.not_lt_zero _))⟩
          case round =>
            obtain ⟨k, hk, rfl, HR⟩ := hrel
            by_cases hlt : k < K
            · obtain rfl := hfa (by omega)
              obtain ⟨ka, kc, hck, hrk⟩ := HFC.out k hlt
              have C2 := hid (inRef_any ka (FL k) kc (FZ k) O _ (HF47.out k hlt) hrk)
              clear hrk
              cases q2 : allIn (FL k) (FZ k) O
              · have E2 := hid (okL_no k hlt q2)
                rw [q2] at C2
                rw [E2.out, if_neg (by simp)] at E
                clear q2
                go_wp2_with fail
                refine C2.out.mono ?_
                rintro e w1 ⟨rfl, rfl⟩
                go_wp2
                go_ret
                exact ⟨ret_int E.out.symm, HBX.out⟩
              · have Q2 := hid q2
                rw [q2] at C2
                clear q2
                go_wp2_with fail
                refine C2.out.mono ?_
                rintro e w1 ⟨rfl, rfl⟩
                go_wp2
                go_round
                case rel => exact ⟨k + 1, by omega, by go_num, hid (snoc_all HR.out Q2.out)⟩
                case measure => simp [intOf]; omega
            · have E2 := hid (okL_yes (K := K) (FL := FL) (FZ := FZ) (G := O) (fun r hr => HR.out r (by omega)))
              rw [E2.out, if_pos (by simp)] at E
              clear HR E2
              go_wp2
              go_ret
              exact ⟨ret_int E.out.symm, HBX.out⟩

end Go.Proofs.YtdncjikmknkkpaaDoor
