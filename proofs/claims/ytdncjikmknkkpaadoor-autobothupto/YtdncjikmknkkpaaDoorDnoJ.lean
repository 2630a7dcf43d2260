/- The document's lists of numbers: Index, Contains, once. The document's Index of pairs. The document's numbers of pairs: numbered's own closure. The document's numbers of pairs: numbered's own closure, walked. -/
import Derived.Test.YtdncjikmknkkpaaDoorSam
import Derived.Test.YtdncjikmknkkpaaDoorOnc
import Derived.Test.YtdncjikmknkkpaaDoorSgx
import Derived.Deep.AppendLies
import Derived.Test.YtdncjikmknkkpaaDoorRll0J
namespace Go.Proofs.YtdncjikmknkkpaaDoor
open Go.RowKit

set_option maxHeartbeats 1000000 in
theorem idxI (a : Option Addr) (n c : Nat) (Z : Nat → Int) (x : Int) (w : World) (hn : n ≤ 140737488355328) (h : Row w a n Z) :
    Calls Tryd.prog 83 #[.slice a n c, .int .i64 x] w fun e w' => (∃ r : Int, e = .returned (.int .i64 r) ∧ ((0 ≤ r ∧ has n Z x = true) ∨ (r = -1 ∧ has n Z x = false))) ∧ w' = w := by
  obtain ⟨b, o, ha, hc⟩ := h
  have HC := hid hc
  clear hc
  go_enter Tryd.func83, Tryd.ntmps83
  go_wp2
  go_loopw [8] (fun i wr => ∃ k : Nat, k ≤ n ∧ i = .int .i64 k ∧ wr = w ∧ Hid (∀ j, j < k → Z j ≠ x)) (fun i _ => n - (intOf i).toNat)
  case atStart => exact ⟨0, Nat.zero_le _, rfl, rfl, hid (fun j hj => absurd hj (Nat.not_lt_zero _))⟩
  case round =>
    obtain ⟨k, hk, rfl, rfl, H⟩ := hrel
    by_cases hlt : k < n
    · obtain rfl := ha (by omega)
      have hck := HC.out k hlt
      by_cases e : x = Z k
      · have hb : (x == Z k) = true := by simp [e]
        have E := hid e
        clear e
        go_wp2
        go_ret
        exact ⟨⟨_, rfl, Or.inl ⟨by omega, decide_eq_true ⟨k, hlt, E.out.symm⟩⟩⟩, rfl⟩
      · have hb : (x == Z k) = false := by simp [e]
        have E := hid e
        clear e
        go_wp2
        go_roundw
        case rel => exact ⟨k + 1, by omega, by go_num, trivial, hid (fun j hj => by
          by_cases e : j = k
          · subst e; exact fun h => E.out h.symm
          · exact H.out j (by omega))⟩
        case measure => simp [intOf]; omega
    · go_wp2
      go_ret
      exact ⟨⟨_, rfl, Or.inr ⟨rfl, has_no (fun i hi => H.out i (by omega))⟩⟩, rfl⟩

theorem conI (a : Option Addr) (n c : Nat) (Z : Nat → Int) (x : Int) (w : World) (hn : n ≤ 140737488355328) (h : Row w a n Z) :
    Calls Tryd.prog 54 #[.slice a n c, .int .i64 x] w fun e w' => e = .returned (.bool (has n Z x)) ∧ w' = w := by
  have C := hid (idxI a n c Z x w hn h)
  clear h
  go_enter Tryd.func54, Tryd.ntmps54
  go_wp2_with fail
  refine C.out.mono ?_
  rintro e w' ⟨⟨r, rfl, hr⟩, rfl⟩
  have HR := hid hr
  clear hr
  go_wp2
  go_ret
  refine ⟨ret_bool ?_, rfl⟩
  rcases HR.out with ⟨h1, h2⟩ | ⟨rfl, h2⟩
  · rw [h2]; simp [h1]
  · rw [h2]; rfl

set_option maxHeartbeats 2000000 in
theorem onceD (a : Option Addr) (n c : Nat) (Z : Nat → Int) (w : World) (hn : n ≤ 4398046511104) (h : Row w a n Z) (hZ : ∀ i, i < n → 0 ≤ Z i) :
    Calls Tryd.prog 82 #[.slice a n c] w fun e w' => ∃ la lc, e = .returned (.slice la (onN Z n).length lc) ∧ Hid (w'.ownsRow w.heap.size 3 1 (.slice la (onN Z n).length lc) (cs (onN Z n)).length (vals (cs (onN Z n))) ∧ Below w.heap.size w w') := by
  obtain ⟨b, o, ha, hc⟩ := h
  have HC : Hid (∀ i, i < n → w.cell? ⟨b, o + i, none⟩ = some (.int .i64 (Z i))) := hc
  have HZ := hid hZ
  clear hc hZ
  have hol : ∀ k, (onN Z k).length ≤ k := fun k => by
    induction k with
    | zero => simp [onN, nAdds]
    | succ k ih =>
      rw [onN_succ]
      unfold nAdd
      split
      · omega
      · rw [List.length_append]; simp; omega
  have HOL := hid hol
  obtain ⟨i0, hi, hz0, hz1, hz2⟩ := info_parts Tryd.info3
  have HI : Hid (Tryd.prog.info? 3 = some i0 ∧ i0.zero = some (.int .i64 0) ∧ i0.size = 1 ∧ i0.bytes = 8) := ⟨hi, hz0, hz1, hz2⟩
  clear hi hz0 hz1 hz2 hol
  go_enter Tryd.func82, Tryd.ntmps82
  go_wp2
  go_loopw [3, 4] (fun v i wr => ∃ k : Nat, k ≤ n ∧ i = .int .i64 k ∧ Hid (Below w.heap.size w wr ∧ wr.ownsRow w.heap.size 3 1 v (cs (onN Z k)).length (vals (cs (onN Z k))))) (fun _ i _ => n - (intOf i).toNat)
  case atStart => exact ⟨0, by omega, rfl, hid ⟨Below.refl _ _, World.ownsRow_nil _ _ _ _⟩⟩
  case round =>
    rename_i v _
    obtain ⟨k, hk, rfl, H⟩ := hrel
    obtain ⟨va, vc, hv, hrow⟩ := owns_row H.out.2
    subst hv
    have hlen : (cs (onN Z k)).length ≤ k := by rw [cs_len]; exact HOL.out k
    by_cases hlt : k < n
    · obtain rfl := ha (by omega)
      have h1 : wr.cell? ⟨b, o + k, none⟩ = some (.int .i64 (Z k)) := below_cell H.out.1 (Nat.le_refl _) (HC.out k hlt)
      have CC := hid (conI va (cs (onN Z k)).length vc _ (Z k) wr (by omega) hrow)
      have hz := HZ.out k hlt
      have HM : Hid (has (cs (onN Z k)).length (fun i => (cs (onN Z k)).getD i 0) (Z k) = true ↔ (Z k).toNat ∈ onN Z k) := hid (by
        unfold has
        rw [decide_eq_true_eq, List.mem_iff_getElem?]
        constructor
        · rintro ⟨i, hi, e⟩
          have e' : (cs (onN Z k)).getD i 0 = Z k := e
          rw [cs_at] at e'
          rw [cs_len] at hi
          refine ⟨i, ?_⟩
          rw [List.getD_eq_getElem?_getD, List.getElem?_eq_getElem hi] at e'
          rw [List.getElem?_eq_getElem hi]
          have : ((onN Z k)[i] : Int) = Z k := e'
          congr 1
          omega
        · rintro ⟨i, e⟩
          have hi := (List.getElem?_eq_some_iff.1 e).1
          exact ⟨i, by rw [cs_len]; exact hi, by show (cs (onN Z k)).getD i 0 = Z k; rw [cs_at, List.getD_eq_getElem?_getD, e]; show (((Z k).toNat : Nat) : Int) = Z k; omega⟩)
      have e1 := onN_succ Z k
      obtain ⟨z, hze⟩ : ∃ z, Z k = z := ⟨_, rfl⟩
      rw [hze] at h1 CC HM hz e1
      have E1 := hid e1
      have HZ2 := hid hz
      clear hrow hze e1 hz
      cases hb : has (cs (onN Z k)).length (fun i => (cs (onN Z k)).getD i 0) z
      · have HB := hid hb
        rw [hb] at CC
        clear hb
        go_wp2_with fail
        refine CC.out.mono ?_
        rintro e w' ⟨rfl, hq⟩
        obtain rfl := hq.symm
        go_wp2_with (at_builtin; refine wpList_append_own_at _ rfl _ _ 22 rfl w.heap.size 3 i0 (.int .i64 0) 1 8 Tryd.underlying22 HI.out.1 HI.out.2.1 HI.out.2.2.1 HI.out.2.2.2 rfl (by decide) _ _ _ rfl (H.out.2.alloc _) ⟨wr.heap.size, 0, none⟩ 1 1 [.int .i64 z] rfl rfl (cell_one_new _ _ _) (ints_oneCell .i64 [z]) (by unfold maxLen; omega) (by omega) (by have := H.out.1.size; simp; omega) ?_; intro v' w3 hown' hgrow hnil hloc; have G := hid (ints_grow H.out.1 (Nat.le_refl _) H.out.2 hown' hgrow); clear hown' hgrow hnil hloc)
        go_roundw
        case rel =>
          have hnew : z.toNat ∉ onN Z k := fun hm => by have := HM.out.2 hm; rw [HB.out] at this; cases this
          have e2 : onN Z (k + 1) = onN Z k ++ [z.toNat] := by rw [E1.out, nAdd, if_neg hnew]
          refine ⟨k + 1, by omega, by go_num, hid ⟨G.out.1, ?_⟩⟩
          rw [e2, cs_snoc, show ((z.toNat : Nat) : Int) = z from by have := HZ2.out; omega]
          exact G.out.2.1
        case measure => simp [intOf]; omega
      · have HB := hid hb
        rw [hb] at CC
        clear hb
        go_wp2_with fail
        refine CC.out.mono ?_
        rintro e w' ⟨rfl, hq⟩
        obtain rfl := hq.symm
        go_wp2
        go_roundw
        case rel =>
          have e2 : onN Z (k + 1) = onN Z k := by rw [E1.out, nAdd, if_pos (HM.out.1 HB.out)]
          exact ⟨k + 1, by omega, by go_num, hid ⟨H.out.1, by rw [e2]; exact H.out.2⟩⟩
        case measure => simp [intOf]; omega
    · go_wp2
      go_ret
      obtain rfl : k = n := by omega
      exact ⟨va, vc, by rw [← cs_len]; rfl, hid ⟨by have := H.out.2; rw [show (onN Z k).length = (cs (onN Z k)).length from (cs_len _).symm]; exact this, H.out.1⟩⟩

end Go.Proofs.YtdncjikmknkkpaaDoor

namespace Go.Proofs.YtdncjikmknkkpaaDoor
open Go.RowKit

theorem Tryd.cells88 : Tryd.prog.cellsOf 88 = 2 := by kernel_rfl
theorem Tryd.cells3q : Tryd.prog.cellsOf 3 = 1 := by kernel_rfl
set_option maxRecDepth 100000 in
theorem Tryd.keyD : Tryd.prog.keyTypeAt 2 88 = true := by kernel_rfl
set_option maxRecDepth 100000 in
theorem lits59 {x y : Nat} (hx : x < 4096) (hy : y < 4096) : Tryd.prog.keyLits 2 88 (Value.agg #[.int .i64 (x : Nat), .int .i64 (y : Nat)]).cells.toList = some [.int .i64 x, .int .i64 y] := by
  have w1 : (Lit.int .i64 (x : Int)).wf = true := WalkArith.wf_i64 (by omega)
  have w2 : (Lit.int .i64 (y : Int)).wf = true := WalkArith.wf_i64 (by omega)
  simp [Program.keyLits, Tryd.underlying88, Tryd.underlying3, Value.cells, Tryd.cells88, Tryd.cells3q, w1, w2, List.range, List.range.loop]
set_option maxRecDepth 100000 in
/-- Two pairs compared. -/
theorem eq59 {x y x' y' : Nat} (h1 : x < 4096) (h2 : y < 4096) (h3 : x' < 4096) (h4 : y' < 4096) (u : World) : (Op.equalIn 10000 88 (.agg #[.int .i64 (x : Nat), .int .i64 (y : Nat)]) (.agg #[.int .i64 (x' : Nat), .int .i64 (y' : Nat)])).run Tryd.prog u = .ok (decide (x = x' ∧ y = y')) u := by
  obtain ⟨r, hr, hi⟩ := run_equalIn_deep (P := Tryd.prog) 9998 2 88 Tryd.keyD u 2 2 _ _ _ _ (by simp [Value.formed, Tryd.underlying88, Tryd.cells88]) (by simp [Value.formed, Tryd.underlying88, Tryd.cells88]) (lits59 h1 h2) (lits59 h3 h4)
  have hr2 : (Op.equalIn 10000 88 (.agg #[.int .i64 (x : Nat), .int .i64 (y : Nat)]) (.agg #[.int .i64 (x' : Nat), .int .i64 (y' : Nat)])).run Tryd.prog u = .ok r u := hr
  rw [hr2]
  congr 1
  rw [Bool.eq_iff_iff, hi, decide_eq_true_eq]
  simp
  omega

set_option maxRecDepth 100000 in
set_option maxHeartbeats 2000000 in
theorem idxP (a : Option Addr) (n c : Nat) (L : List (Nat × Nat)) (p : Nat × Nat) (w : World) (hn : n = L.length) (hb4 : n ≤ 4398046511104) (hnd : L.Nodup) (hsm : ∀ q ∈ L, Sml q) (hp : Sml p) (h : Sp w a n (nAt L)) :
    Calls Tryd.prog 81 #[.slice a n c, .agg #[.int .i64 (p.1 : Nat), .int .i64 (p.2 : Nat)]] w fun e w' => (∃ r : Int, e = .returned (.int .i64 r) ∧ ((p ∈ L ∧ r = (ix p L : Nat)) ∨ (p ∉ L ∧ r = -1))) ∧ Below w.heap.size w w' := by
  obtain ⟨b, ha, hc⟩ := h
  have HC := hid hc
  have HN := hid (And.intro hn hnd)
  have HSm := hid (And.intro hsm hp)
  clear hc hn hnd hsm hp
  obtain ⟨px, py⟩ := p
  dsimp only
  obtain ⟨W1, hW1, hb1, hs1, x0, x1⟩ := box2 w (.int .i64 (px : Nat)) (.int .i64 (py : Nat)) 88
  have HB1 := hid (And.intro hb1 (And.intro x0 x1))
  clear hb1 hs1 x0 x1
  go_enter Tryd.func81, Tryd.ntmps81
  go_wp2
  go_loopw [8] (fun i wr => ∃ k : Nat, k ≤ n ∧ i = .int .i64 k ∧ Hid (Sm W1 wr ∧ ∀ j, j < k → nAt L j ≠ (px, py))) (fun i _ => n - (intOf i).toNat)
  case atStart => exact ⟨0, Nat.zero_le _, rfl, hid ⟨Sm.refl _, fun j hj => absurd hj (Nat.not_lt_zero _)⟩⟩
  case round =>
    obtain ⟨k, hk, rfl, H⟩ := hrel
    by_cases hlt : k < n
    · obtain rfl := ha (by omega)
      obtain ⟨c0, c1⟩ := HC.out k hlt
      have hL : L[k]? = some (nAt L k) := nAt_some (by have := HN.out.1; omega)
      have z0 : wr.cell? ⟨b, k * 2, none⟩ = _ := (H.out.1.cell _).trans (below_cell HB1.out.1 (Nat.le_refl _) c0)
      have z1 : wr.cell? ⟨b, k * 2 + 1, none⟩ = _ := (H.out.1.cell _).trans (below_cell HB1.out.1 (Nat.le_refl _) c1)
      have y0 : wr.cell? ⟨w.heap.size, 0, none⟩ = _ := (H.out.1.cell _).trans HB1.out.2.1
      have y1 : wr.cell? ⟨w.heap.size, 1, none⟩ = _ := (H.out.1.cell _).trans HB1.out.2.2
      obtain ⟨q, hq⟩ : ∃ q, nAt L k = q := ⟨_, rfl⟩
      rw [hq] at z0 z1 hL
      obtain ⟨qx, qy⟩ := q
      dsimp only at z0 z1
      have HL := hid (And.intro hL hq)
      have hs1 : Sml (qx, qy) := HSm.out.1 _ (List.mem_of_getElem? hL)
      have hs2 : Sml (px, py) := HSm.out.2
      have heq := fun u => eq59 hs2.1 hs2.2 hs1.1 hs1.2 u
      dsimp only at heq
      clear hs1 hs2
      have hS0 : (fun z : World => z.cell? ⟨w.heap.size, 0, none⟩ = some (.int .i64 (px : Nat)) ∧ z.cell? ⟨w.heap.size, 1, none⟩ = some (.int .i64 (py : Nat)) ∧ z.cell? ⟨b, k * 2, none⟩ = some (.int .i64 (qx : Nat)) ∧ z.cell? ⟨b, k * 2 + 1, none⟩ = some (.int .i64 (qy : Nat))) wr.drew := ⟨y0, y1, z0, z1⟩
      clear c0 c1 hL hq
      by_cases e : px = qx ∧ py = qy
      · rw [decide_eq_true e] at heq
        have HE := hid e
        clear e
        go_wp2_with fail
        refine G_region (fun z : World => z.cell? ⟨w.heap.size, 0, none⟩ = some (.int .i64 (px : Nat)) ∧ z.cell? ⟨w.heap.size, 1, none⟩ = some (.int .i64 (py : Nat)) ∧ z.cell? ⟨b, k * 2, none⟩ = some (.int .i64 (qx : Nat)) ∧ z.cell? ⟨b, k * 2 + 1, none⟩ = some (.int .i64 (qy : Nat))) (fun _ => false) (by kernel_rfl) hS0 (fun _ => ?_)
        refine G_take (i := 0) (oi := { dst := some 11, op := Op.load 88 (Operand.tmp 3), type := 88, pos := _, after := #[], guard := none }) (v := .agg #[.int .i64 (px : Nat), .int .i64 (py : Nat)]) rfl (by kernel_rfl) (by kernel_rfl) (by kernel_rfl) (by kernel_rfl) (fun _ _ _ h => h) (by rfl) (fun u hu => ?_) hS0 ?_
        · (try dsimp only at hu); go_simp
        (try simp only [Act.put, List.setIfInBounds_toArray, List.set_cons_zero, List.set_cons_succ])
        refine G_take (i := 1) (oi := { dst := some 12, op := Op.move (Operand.tmp 0), type := 87, pos := _, after := #[], guard := none }) (v := .slice (some ⟨b, 0, none⟩) n c) rfl (by kernel_rfl) (by kernel_rfl) (by kernel_rfl) (by kernel_rfl) (fun _ _ _ h => h) (by rfl) (fun u hu => ?_) hS0 ?_
        · (try dsimp only at hu); go_simp
        (try simp only [Act.put, List.setIfInBounds_toArray, List.set_cons_zero, List.set_cons_succ])
        refine G_take (i := 2) (oi := { dst := some 13, op := Op.move (Operand.tmp 5), type := 3, pos := _, after := #[], guard := none }) (v := .int .i64 (k : Nat)) rfl (by kernel_rfl) (by kernel_rfl) (by kernel_rfl) (by kernel_rfl) (fun _ _ _ h => h) (by rfl) (fun u hu => ?_) hS0 ?_
        · (try dsimp only at hu); go_simp
        (try simp only [Act.put, List.setIfInBounds_toArray, List.set_cons_zero, List.set_cons_succ])
        refine G_take (i := 3) (oi := { dst := some 14, op := Op.indexAddr 87 (Operand.tmp 12) (Operand.tmp 13), type := 0, pos := _, after := #[{ on := 1, ground := Ground.data }, { on := 2, ground := Ground.data }], guard := none }) (v := .pointer (some ⟨b, k * 2, none⟩)) rfl (by kernel_rfl) (by kernel_rfl) (by kernel_rfl) (by kernel_rfl) (fun _ _ _ h => h) (by rfl) (fun u hu => ?_) hS0 ?_
        · (try dsimp only at hu); go_simp
        (try simp only [Act.put, List.setIfInBounds_toArray, List.set_cons_zero, List.set_cons_succ])
        refine G_take (i := 4) (oi := { dst := some 15, op := Op.load 88 (Operand.tmp 14), type := 88, pos := _, after := #[{ on := 3, ground := Ground.data }], guard := none }) (v := .agg #[.int .i64 (qx : Nat), .int .i64 (qy : Nat)]) rfl (by kernel_rfl) (by kernel_rfl) (by kernel_rfl) (by kernel_rfl) (fun _ _ _ h => h) (by rfl) (fun u hu => ?_) hS0 ?_
        · (try dsimp only at hu); go_simp
        (try simp only [Act.put, List.setIfInBounds_toArray, List.set_cons_zero, List.set_cons_succ])
        refine G_take (i := 5) (oi := { dst := some 16, op := Op.binOp BinOp.eql 88 (Operand.tmp 11) (Operand.tmp 15) 88, type := 4, pos := _, after := #[{ on := 0, ground := Ground.data }, { on := 4, ground := Ground.data }], guard := none }) (v := .bool true) rfl (by kernel_rfl) (by kernel_rfl) (by kernel_rfl) (by kernel_rfl) (fun _ _ _ h => h) (by rfl) (fun u hu => ?_) hS0 ?_
        · (try dsimp only at hu); go_simp
        (try simp only [Act.put, List.setIfInBounds_toArray, List.set_cons_zero, List.set_cons_succ])
        refine G_done (by kernel_rfl) ?_ _
        (try dsimp only [Exit.then])
        go_wp2
        go_ret
        obtain ⟨rfl, rfl⟩ := HE.out
        refine ⟨⟨_, rfl, Or.inl ⟨List.mem_of_getElem? HL.out.1, ?_⟩⟩, HB1.out.1.trans (H.out.1.drew.below _)⟩
        rw [at_ix HN.out.2 HL.out.1]
      · have HE := hid e
        rw [decide_eq_false e] at heq
        clear e
        go_wp2_with fail
        refine G_region (fun z : World => z.cell? ⟨w.heap.size, 0, none⟩ = some (.int .i64 (px : Nat)) ∧ z.cell? ⟨w.heap.size, 1, none⟩ = some (.int .i64 (py : Nat)) ∧ z.cell? ⟨b, k * 2, none⟩ = some (.int .i64 (qx : Nat)) ∧ z.cell? ⟨b, k * 2 + 1, none⟩ = some (.int .i64 (qy : Nat))) (fun _ => false) (by kernel_rfl) hS0 (fun _ => ?_)
        refine G_take (i := 0) (oi := { dst := some 11, op := Op.load 88 (Operand.tmp 3), type := 88, pos := _, after := #[], guard := none }) (v := .agg #[.int .i64 (px : Nat), .int .i64 (py : Nat)]) rfl (by kernel_rfl) (by kernel_rfl) (by kernel_rfl) (by kernel_rfl) (fun _ _ _ h => h) (by rfl) (fun u hu => ?_) hS0 ?_
        · (try dsimp only at hu); go_simp
        (try simp only [Act.put, List.setIfInBounds_toArray, List.set_cons_zero, List.set_cons_succ])
        refine G_take (i := 1) (oi := { dst := some 12, op := Op.move (Operand.tmp 0), type := 87, pos := _, after := #[], guard := none }) (v := .slice (some ⟨b, 0, none⟩) n c) rfl (by kernel_rfl) (by kernel_rfl) (by kernel_rfl) (by kernel_rfl) (fun _ _ _ h => h) (by rfl) (fun u hu => ?_) hS0 ?_
        · (try dsimp only at hu); go_simp
        (try simp only [Act.put, List.setIfInBounds_toArray, List.set_cons_zero, List.set_cons_succ])
        refine G_take (i := 2) (oi := { dst := some 13, op := Op.move (Operand.tmp 5), type := 3, pos := _, after := #[], guard := none }) (v := .int .i64 (k : Nat)) rfl (by kernel_rfl) (by kernel_rfl) (by kernel_rfl) (by kernel_rfl) (fun _ _ _ h => h) (by rfl) (fun u hu => ?_) hS0 ?_
        · (try dsimp only at hu); go_simp
        (try simp only [Act.put, List.setIfInBounds_toArray, List.set_cons_zero, List.set_cons_succ])
        refine G_take (i := 3) (oi := { dst := some 14, op := Op.indexAddr 87 (Operand.tmp 12) (Operand.tmp 13), type := 0, pos := _, after := #[{ on := 1, ground := Ground.data }, { on := 2, ground := Ground.data }], guard := none }) (v := .pointer (some ⟨b, k * 2, none⟩)) rfl (by kernel_rfl) (by kernel_rfl) (by kernel_rfl) (by kernel_rfl) (fun _ _ _ h => h) (by rfl) (fun u hu => ?_) hS0 ?_
        · (try dsimp only at hu); go_simp
        (try simp only [Act.put, List.setIfInBounds_toArray, List.set_cons_zero, List.set_cons_succ])
        refine G_take (i := 4) (oi := { dst := some 15, op := Op.load 88 (Operand.tmp 14), type := 88, pos := _, after := #[{ on := 3, ground := Ground.data }], guard := none }) (v := .agg #[.int .i64 (qx : Nat), .int .i64 (qy : Nat)]) rfl (by kernel_rfl) (by kernel_rfl) (by kernel_rfl) (by kernel_rfl) (fun _ _ _ h => h) (by rfl) (fun u hu => ?_) hS0 ?_
        · (try dsimp only at hu); go_simp
        (try simp only [Act.put, List.setIfInBounds_toArray, List.set_cons_zero, List.set_cons_succ])
        refine G_take (i := 5) (oi := { dst := some 16, op := Op.binOp BinOp.eql 88 (Operand.tmp 11) (Operand.tmp 15) 88, type := 4, pos := _, after := #[{ on := 0, ground := Ground.data }, { on := 4, ground := Ground.data }], guard := none }) (v := .bool false) rfl (by kernel_rfl) (by kernel_rfl) (by kernel_rfl) (by kernel_rfl) (fun _ _ _ h => h) (by rfl) (fun u hu => ?_) hS0 ?_
        · (try dsimp only at hu); go_simp
        (try simp only [Act.put, List.setIfInBounds_toArray, List.set_cons_zero, List.set_cons_succ])
        refine G_done (by kernel_rfl) ?_ _
        (try dsimp only [Exit.then])
        go_wp2
        go_roundw
        case rel => exact ⟨k + 1, by omega, by go_num, hid ⟨H.out.1.drew, fun j hj => by
          by_cases e : j = k
          · subst e; rw [HL.out.2]; intro hh; cases hh; exact HE.out ⟨rfl, rfl⟩
          · exact H.out.2 j (by omega)⟩⟩
        case measure => simp [intOf]; omega
    · go_wp2
      go_ret
      refine ⟨⟨_, rfl, Or.inr ⟨fun hm => ?_, rfl⟩⟩, HB1.out.1.trans (H.out.1.below _)⟩
      have h1 := ix_lt hm
      have h2 : nAt L (ix (px, py) L) = (px, py) := by unfold nAt; rw [List.getD_eq_getElem?_getD, ix_at hm]; rfl
      exact H.out.2 _ (by have := HN.out.1; omega) h2

end Go.Proofs.YtdncjikmknkkpaaDoor

namespace Go.Proofs.YtdncjikmknkkpaaDoor
open Go.RowKit

theorem Tryd.info88 : (Tryd.prog.info? 88).map (fun i => (i.zero, i.size, i.bytes)) = some (some (.agg #[.int .i64 0, .int .i64 0]), 2, 16) := by kernel_rfl

/-- An own row of pairs, as a slice. -/
theorem owns_pd {w : World} {base : Nat} {v : Value} {l : List (Nat × Nat)} (h : w.ownsRow base 88 2 v l.length (pcells l)) :
    ∃ a c, v = .slice a l.length c ∧ Sp w a l.length (nAt l) := by
  rcases h.2 with ⟨rfl, h0⟩ | ⟨g, cap, cur, rfl, hb, hg, _⟩
  · exact ⟨none, 0, by rw [h0], ⟨0, fun hh => by omega, fun i hi => by omega⟩⟩
  · refine ⟨some ⟨g, 0, none⟩, cap, rfl, ⟨g, fun _ => rfl, fun i hi => ?_⟩⟩
    obtain ⟨h1, h2⟩ := pcells_at l i hi
    have e1 := h.cells (g := g) rfl _ _ h1
    have e2 := h.cells (g := g) rfl _ _ h2
    rw [Addr.add_mid, Nat.zero_add] at e1 e2
    exact ⟨e1, e2⟩

theorem Fr.tra {ex ey : Nat → Prop} {a b c : World} (h : Fr ex a b) (k : Fr ey b c) (he : ∀ x, x < a.heap.size → ey x → ex x) : Fr ex a c :=
  ⟨k.os.trans h.os, k.tape.trans h.tape, k.output.trans h.output, Nat.le_trans h.size k.size, fun x hx hn => (k.block x (Nat.lt_of_lt_of_le hx h.size) (fun e => hn (he x hx e))).trans (h.block x hx hn)⟩

/-- While the pairs of a list get their numbers. -/
structure Nu (w : World) (Bl : Nat) (pv0 : Value) (P0 xs : List (Nat × Nat)) (k : Nat) (W : World) (pv lv : Value) : Prop where
  var : W.heap[Bl]? = some (.cells #[pv] 87)
  own : W.ownsRow 0 88 2 pv (nAdds P0 (xs.take k)).length (pcells (nAdds P0 (xs.take k)))
  out : W.ownsRow w.heap.size 3 1 lv (cs ((xs.take k).map fun p => ix p (nAdds P0 (xs.take k)))).length (vals (cs ((xs.take k).map fun p => ix p (nAdds P0 (xs.take k)))))
  fr : Fr (fun b => b = Bl ∨ pv0.ownBlock = some b) w W
  loc : pv.ownBlock = pv0.ownBlock ∨ ∀ b, pv.ownBlock = some b → w.heap.size ≤ b

/-- Memory stays but for new blocks. -/
theorem Nu.below {w : World} {Bl : Nat} {pv0 : Value} {P0 xs : List (Nat × Nat)} {k : Nat} {W W' : World} {pv lv : Value} (h : Nu w Bl pv0 P0 xs k W pv lv) (hb : Below W.heap.size W W') : Nu w Bl pv0 P0 xs k W' pv lv :=
  ⟨(hb.block _ (Array.getElem?_eq_some_iff.1 h.var).1).trans h.var, owns_below h.own hb, owns_below h.out hb, h.fr.tra (ey := fun b => b = Bl ∨ pv0.ownBlock = some b) ⟨hb.os, hb.tape, hb.output, hb.size, fun b hb2 _ => hb.block b hb2⟩ (fun _ _ h => h), h.loc⟩

/-- A pair is there, or goes to the end. -/
theorem Nu.put {w : World} {Bl : Nat} {pv0 : Value} {P0 xs : List (Nat × Nat)} {k : Nat} {W W4 : World} {pv pv' lv : Value} {p : Nat × Nat} {o : Obj} (h : Nu w Bl pv0 P0 xs k W pv lv) (hx : xs[k]? = some p) (hn : p ∉ nAdds P0 (xs.take k))
    (hown : W4.ownsRow 0 88 2 pv' ((nAdds P0 (xs.take k)).length + 1) (pcells (nAdds P0 (xs.take k)) ++ [.int .i64 ((p.1 : Nat) : Int), .int .i64 ((p.2 : Nat) : Int)])) (hgr : (W.alloc o).grownBy W4 pv.ownBlock) (hat : pv.ownBlock = pv'.ownBlock ∨ pv'.ownBlock = some (W.heap.size + 1)) :
    W4.cell? ⟨Bl, 0, none⟩ = some pv ∧ W4.frozen? ⟨Bl, 0, none⟩ = false ∧ (∀ b, b < W.heap.size → pv.ownBlock ≠ some b → W4.heap[b]? = W.heap[b]?) ∧
    Hid ((W4.setCell ⟨Bl, 0, none⟩ pv').heap[Bl]? = some (.cells #[pv'] 87) ∧ (W4.setCell ⟨Bl, 0, none⟩ pv').ownsRow 0 88 2 pv' (nAdds P0 (xs.take (k + 1))).length (pcells (nAdds P0 (xs.take (k + 1)))) ∧
      (W4.setCell ⟨Bl, 0, none⟩ pv').ownsRow w.heap.size 3 1 lv (cs ((xs.take k).map fun p => ix p (nAdds P0 (xs.take (k + 1))))).length (vals (cs ((xs.take k).map fun p => ix p (nAdds P0 (xs.take (k + 1)))))) ∧
      Fr (fun b => b = Bl ∨ pv0.ownBlock = some b) w (W4.setCell ⟨Bl, 0, none⟩ pv') ∧ (pv'.ownBlock = pv0.ownBlock ∨ ∀ b, pv'.ownBlock = some b → w.heap.size ≤ b)) := by
  have hg := (World.grownBy_alloc W o pv.ownBlock).trans hgr
  have hk : ∀ b, b < W.heap.size → pv.ownBlock ≠ some b → W4.heap[b]? = W.heap[b]? := fun b hb hne => hg.block b hb (fun e => hne e.symm)
  have hv : ∀ {b : Nat} {c : Array Value} {t : TypeId} {z : Nat × Nat}, W.heap[b]? = some (.cells c t z) → t ≠ 88 → pv.ownBlock ≠ some b := fun {b c t z} hb ht e => by
    obtain ⟨c2, z2, h3⟩ := owns_blk h.own e
    rw [hb] at h3
    cases h3
    exact ht rfl
  have hlB := (Array.getElem?_eq_some_iff.1 h.var).1
  have ha : W4.heap[Bl]? = some (.cells #[pv] 87) := (hk Bl hlB (hv h.var (by decide))).trans h.var
  have hbut : But Bl W4 (W4.setCell ⟨Bl, 0, none⟩ pv') := (But.refl _ _).setCell 0 _
  have hset : ∀ {base : Nat} {e : TypeId} {size : Nat} {v : Value} {n : Nat} {ys : List Value}, e ≠ 87 → W4.ownsRow base e size v n ys → (W4.setCell ⟨Bl, 0, none⟩ pv').ownsRow base e size v n ys := fun {base e size v n ys} he h1 => owns_of_blk h1 (fun b e1 => by
    obtain ⟨c, z, h2⟩ := owns_blk h1 e1
    exact hbut.block b (Array.getElem?_eq_some_iff.1 h2).1 (fun e2 => by
      rw [e2, ha] at h2
      cases h2
      exact he rfl))
  have ht : xs.take (k + 1) = xs.take k ++ [p] := by rw [List.take_add_one, hx]; rfl
  have e1 : nAdds P0 (xs.take (k + 1)) = nAdds P0 (xs.take k) ++ [p] := by rw [ht, nAdds_snoc, nAdd, if_neg hn]
  have hnum : ((xs.take k).map fun p => ix p (nAdds P0 (xs.take (k + 1)))) = (xs.take k).map fun p => ix p (nAdds P0 (xs.take k)) := List.map_congr_left (fun y hy => by
    rw [e1]
    exact ix_app ((mem_nAdds _ _).2 (Or.inr hy)))
  refine ⟨cell_of_cells ha rfl, by simp [World.frozen?, ha], hk, hid ⟨?_, ?_, ?_, ?_, ?_⟩⟩
  · have e := blk_setCell (i := 0) (v := pv') ha
    simpa using e
  · rw [e1, List.length_append, ← pcells_snoc]
    exact hset (by decide) hown
  · rw [hnum]
    exact hset (by decide) (owns_of_blk h.out (fun b e => by
      obtain ⟨c, z, h2⟩ := owns_blk h.out e
      exact hk b (Array.getElem?_eq_some_iff.1 h2).1 (hv h2 (by decide))))
  · refine ((h.fr.grown hg (fun b hb hlt => ?_))).setCell (p := ⟨Bl, 0, none⟩) (fun _ => Or.inl rfl) _
    rcases h.loc with e | e
    · exact Or.inr (by rw [← e]; exact hb)
    · have := e b hb; omega
  · rcases hat with e | e
    · rcases h.loc with e2 | e2
      · exact Or.inl (e.symm.trans e2)
      · exact Or.inr (fun b hb => e2 b (e.trans hb))
    · refine Or.inr (fun b hb => ?_)
      rw [e] at hb
      have h2 : W.heap.size + 1 = b := Option.some.inj hb
      have := h.fr.size
      omega

/-- A number goes to the end of the list. -/
theorem nu_num {w : World} {Bl : Nat} {pv0 : Value} {P0 xs : List (Nat × Nat)} {k : Nat} {W W7 : World} {pv lv lv' : Value} {p : Nat × Nat} {o : Obj} (hx : xs[k]? = some p)
    (h1 : W.heap[Bl]? = some (.cells #[pv] 87)) (h2 : W.ownsRow 0 88 2 pv (nAdds P0 (xs.take (k + 1))).length (pcells (nAdds P0 (xs.take (k + 1)))))
    (h3 : W.ownsRow w.heap.size 3 1 lv (cs ((xs.take k).map fun p => ix p (nAdds P0 (xs.take (k + 1))))).length (vals (cs ((xs.take k).map fun p => ix p (nAdds P0 (xs.take (k + 1)))))))
    (h4 : Fr (fun b => b = Bl ∨ pv0.ownBlock = some b) w W) (h5 : pv.ownBlock = pv0.ownBlock ∨ ∀ b, pv.ownBlock = some b → w.heap.size ≤ b)
    (hown : W7.ownsRow w.heap.size 3 1 lv' ((cs ((xs.take k).map fun p => ix p (nAdds P0 (xs.take (k + 1))))).length + 1) (vals (cs ((xs.take k).map fun p => ix p (nAdds P0 (xs.take (k + 1))))) ++ [.int .i64 ((ix p (nAdds P0 (xs.take (k + 1))) : Nat) : Int)])) (hgr : (W.alloc o).grownBy W7 lv.ownBlock) : Nu w Bl pv0 P0 xs (k + 1) W7 pv lv' := by
  have hg := (World.grownBy_alloc W o lv.ownBlock).trans hgr
  have hk : ∀ {b : Nat} {c : Array Value} {t : TypeId} {z : Nat × Nat}, W.heap[b]? = some (.cells c t z) → t ≠ 3 → W7.heap[b]? = W.heap[b]? := fun {b c t z} hb ht => hg.block b (Array.getElem?_eq_some_iff.1 hb).1 (fun e => by
    obtain ⟨c2, z2, h6⟩ := owns_blk h3 e.symm
    rw [hb] at h6
    cases h6
    exact ht rfl)
  have ht : xs.take (k + 1) = xs.take k ++ [p] := by rw [List.take_add_one, hx]; rfl
  have hnum : ((xs.take (k + 1)).map fun p => ix p (nAdds P0 (xs.take (k + 1)))) = ((xs.take k).map fun p => ix p (nAdds P0 (xs.take (k + 1)))) ++ [ix p (nAdds P0 (xs.take (k + 1)))] := by
    conv => lhs; rw [ht, List.map_append]
    rw [← ht]
    rfl
  refine ⟨(hk h1 (by decide)).trans h1, owns_of_blk h2 (fun b e => by
    obtain ⟨c, z, h6⟩ := owns_blk h2 e
    exact hk h6 (by decide)), ?_, h4.grown hg (fun b hb hlt => by have := (h3.lt b hb).1; omega), h5⟩
  rw [hnum, cs_snoc, List.length_append, ← vals_snoc]
  exact hown

end Go.Proofs.YtdncjikmknkkpaaDoor

namespace Go.Proofs.YtdncjikmknkkpaaDoor
open Go.RowKit

theorem nAdds_len (xs : List (Nat × Nat)) : ∀ (P : List (Nat × Nat)), (nAdds P xs).length ≤ P.length + xs.length := by
  induction xs with
  | nil => intro P; simp [nAdds]
  | cons x xs ih =>
    intro P
    rw [nAdds_cons]
    have := ih (nAdd P x)
    have h2 : (nAdd P x).length ≤ P.length + 1 := by unfold nAdd; split <;> simp
    simp
    omega

/-- What numbered's closure answers. -/
def NuIs (w : World) (Bl : Nat) (pv0 : Value) (P0 xs : List (Nat × Nat)) (e : Ending) (w' : World) : Prop :=
  ∃ la lc pv, e = .returned (.slice la (nNums (nAdds P0 xs) xs).length lc) ∧ Hid (w'.heap[Bl]? = some (.cells #[pv] 87) ∧ w'.ownsRow 0 88 2 pv (nAdds P0 xs).length (pcells (nAdds P0 xs)) ∧
    w'.ownsRow w.heap.size 3 1 (.slice la (nNums (nAdds P0 xs) xs).length lc) (cs (nNums (nAdds P0 xs) xs)).length (vals (cs (nNums (nAdds P0 xs) xs))) ∧ Fr (fun b => b = Bl ∨ pv0.ownBlock = some b) w w' ∧ (pv.ownBlock = pv0.ownBlock ∨ ∀ b, pv.ownBlock = some b → w.heap.size ≤ b))

set_option maxRecDepth 100000 in
set_option maxHeartbeats 4000000 in
theorem nu1_any (a : Option Addr) (n c : Nat) (xs : List (Nat × Nat)) (Bl : Nat) (pv0 : Value) (P0 : List (Nat × Nat)) (w : World) (hn : n = xs.length) (hs : Sp w a n (nAt xs)) (hv : w.heap[Bl]? = some (.cells #[pv0] 87)) (ho : w.ownsRow 0 88 2 pv0 P0.length (pcells P0)) (hnd : P0.Nodup) (hsm : ∀ p ∈ P0, Sml p) (hsx : ∀ p ∈ xs, Sml p)
    (hap : ∀ p, a = some p → p.block ≠ Bl ∧ pv0.ownBlock ≠ some p.block) (hlen : P0.length + n ≤ 4398046511104) :
    Calls Tryd.prog 80 #[.slice a n c, .pointer (some ⟨Bl, 0, none⟩)] w fun e w' => NuIs w Bl pv0 P0 xs e w' := by
  obtain ⟨b, ha, hc⟩ := hs
  have HC := hid hc
  have HA := hid (And.intro hn (And.intro hnd (And.intro hsm (And.intro hsx hap))))
  have HLn := hid hlen
  have HBl : Hid (Bl < w.heap.size) := hid (Array.getElem?_eq_some_iff.1 hv).1
  have HU0 : Hid (Nu w Bl pv0 P0 xs 0 w pv0 (.slice none 0 0)) := hid ⟨hv, by simpa [nAdds] using ho, World.ownsRow_nil _ _ _ _, ⟨rfl, rfl, rfl, Nat.le_refl _, fun _ _ _ => rfl⟩, Or.inl rfl⟩
  obtain ⟨i5, hi, hz0, hz1, hz2⟩ := info_parts Tryd.info88
  have HJ : Hid (Tryd.prog.info? 88 = some i5 ∧ i5.zero = some (.agg #[.int .i64 0, .int .i64 0]) ∧ i5.size = 2 ∧ i5.bytes = 16) := ⟨hi, hz0, hz1, hz2⟩
  clear hi hz0 hz1 hz2
  obtain ⟨i0, hi, hz0, hz1, hz2⟩ := info_parts Tryd.info3
  have HI : Hid (Tryd.prog.info? 3 = some i0 ∧ i0.zero = some (.int .i64 0) ∧ i0.size = 1 ∧ i0.bytes = 8) := ⟨hi, hz0, hz1, hz2⟩
  clear hi hz0 hz1 hz2 hc hn hnd hsm hsx hap hlen hv ho
  go_enter Tryd.func80, Tryd.ntmps80
  go_wp2
  go_loopw [4, 5] (fun v i wr => ∃ (k : Nat) (pv : Value), k ≤ n ∧ i = .int .i64 k ∧ Hid (Nu w Bl pv0 P0 xs k wr pv v)) (fun _ i _ => n - (intOf i).toNat)
  case atStart => exact ⟨0, pv0, Nat.zero_le _, rfl, HU0⟩
  case round =>
    rename_i v _
    obtain ⟨k, pv, hk, rfl, HU⟩ := hrel
    clear HU0
    have hnl : (cs ((xs.take k).map fun p => ix p (nAdds P0 (xs.take k)))).length = k := by
      have h3 := HA.out.1
      rw [cs_len, List.length_map, List.length_take]
      omega
    obtain ⟨va, vc, hv, hsp⟩ := owns_pd HU.out.own
    obtain ⟨qn, hqn⟩ : ∃ qn, (nAdds P0 (xs.take k)).length = qn := ⟨_, rfl⟩
    rw [hqn] at hv hsp
    subst hv
    obtain ⟨la, lc, hl, hrow⟩ := owns_row HU.out.out
    rw [hnl] at hl hrow
    subst hl
    have HQN := hid hqn
    have HNL := hid hnl
    have hk4 : (nAdds P0 (xs.take k)).length ≤ 4398046511104 := by
      have h1 := nAdds_len (xs.take k) P0
      have h2 := HLn.out
      have h3 := HA.out.1
      rw [List.length_take] at h1
      omega
    rw [hqn] at hk4
    clear hqn hnl
    by_cases hlt : k < n
    · have hln := HLn.out
      obtain rfl := ha (by omega)
      obtain ⟨p, hp⟩ : ∃ p, nAt xs k = p := ⟨_, rfl⟩
      have hxk : xs[k]? = some p := by rw [← hp]; exact nAt_some (by have := HA.out.1; omega)
      obtain ⟨c0, c1⟩ := HC.out k hlt
      rw [hp] at c0 c1
      obtain ⟨px, py⟩ := p
      dsimp only at c0 c1
      have hapb := HA.out.2.2.2.2 _ rfl
      have hblk : wr.heap[b]? = w.heap[b]? := HU.out.fr.block b (World.block_lt_of_cell? _ _ c0) (fun hx => by
        rcases hx with h | h
        · exact hapb.1 h
        · exact hapb.2 h)
      have z0 : wr.cell? ⟨b, k * 2, none⟩ = _ := (World.cell?_of_block (w := w) (a := ⟨b, k * 2, none⟩) hblk).trans c0
      have z1' : wr.cell? ⟨b, k * 2 + 1, none⟩ = _ := (World.cell?_of_block (w := w) (a := ⟨b, k * 2 + 1, none⟩) hblk).trans c1
      have y0 : wr.cell? ⟨Bl, 0, none⟩ = some (.slice va qn vc) := cell_of_cells HU.out.var rfl
      have hS0 : (fun z : World => z.cell? ⟨Bl, 0, none⟩ = some (.slice va qn vc) ∧ z.cell? ⟨b, k * 2, none⟩ = some (.int .i64 (px : Nat)) ∧ z.cell? ⟨b, k * 2 + 1, none⟩ = some (.int .i64 (py : Nat))) wr.drew := ⟨y0, z0, z1'⟩
      have hsmQ : ∀ q ∈ nAdds P0 (xs.take k), Sml q := fun q hq => by
        rcases (mem_nAdds _ _).1 hq with h | h
        · exact HA.out.2.2.1 q h
        · exact HA.out.2.2.2.1 q (List.mem_of_mem_take h)
      have CI := hid (idxP va qn vc (nAdds P0 (xs.take k)) (px, py) wr.drew HQN.out.symm hk4 (nAdds_nodup _ HA.out.2.1) hsmQ (HA.out.2.2.2.1 _ (List.mem_of_getElem? hxk)) (hsp.below ((Sm.refl wr).drew.below _)))
      have HX := hid hxk
      have HAP : Hid ((Value.slice va qn vc).ownBlock ≠ some b) := hid (fun e => by
        rcases HU.out.loc with h | h
        · exact hapb.2 (by rw [← h]; exact e)
        · have h1 := h b e
          have h2 := World.block_lt_of_cell? _ _ c0
          dsimp only at h2
          omega)
      clear c0 c1 hblk hp hxk hapb hsmQ hsp hrow
      go_wp2_with fail
      refine G_region (fun z : World => z.cell? ⟨Bl, 0, none⟩ = some (.slice va qn vc) ∧ z.cell? ⟨b, k * 2, none⟩ = some (.int .i64 (px : Nat)) ∧ z.cell? ⟨b, k * 2 + 1, none⟩ = some (.int .i64 (py : Nat))) (fun _ => false) (by kernel_rfl) hS0 (fun _ => ?_)
      refine G_take (i := 0) (oi := { dst := some 13, op := Op.load 87 (Operand.tmp 1), type := 87, pos := _, after := #[], guard := none }) (v := .slice va qn vc) rfl (by kernel_rfl) (by kernel_rfl) (by kernel_rfl) (by kernel_rfl) (fun _ _ _ h => h) (by rfl) (fun u hu => ?_) hS0 ?_
      · (try dsimp only at hu); go_simp
      (try simp only [Act.put, List.setIfInBounds_toArray, List.set_cons_zero, List.set_cons_succ])
      refine G_take (i := 1) (oi := { dst := some 14, op := Op.move (Operand.tmp 0), type := 87, pos := _, after := #[], guard := none }) (v := .slice (some ⟨b, 0, none⟩) n c) rfl (by kernel_rfl) (by kernel_rfl) (by kernel_rfl) (by kernel_rfl) (fun _ _ _ h => h) (by rfl) (fun u hu => ?_) hS0 ?_
      · (try dsimp only at hu); go_simp
      (try simp only [Act.put, List.setIfInBounds_toArray, List.set_cons_zero, List.set_cons_succ])
      refine G_take (i := 2) (oi := { dst := some 15, op := Op.move (Operand.tmp 5), type := 3, pos := _, after := #[], guard := none }) (v := .int .i64 (k : Nat)) rfl (by kernel_rfl) (by kernel_rfl) (by kernel_rfl) (by kernel_rfl) (fun _ _ _ h => h) (by rfl) (fun u hu => ?_) hS0 ?_
      · (try dsimp only at hu); go_simp
      (try simp only [Act.put, List.setIfInBounds_toArray, List.set_cons_zero, List.set_cons_succ])
      refine G_take (i := 3) (oi := { dst := some 16, op := Op.indexAddr 87 (Operand.tmp 14) (Operand.tmp 15), type := 0, pos := _, after := #[{ on := 1, ground := Ground.data }, { on := 2, ground := Ground.data }], guard := none }) (v := .pointer (some ⟨b, k * 2, none⟩)) rfl (by kernel_rfl) (by kernel_rfl) (by kernel_rfl) (by kernel_rfl) (fun _ _ _ h => h) (by rfl) (fun u hu => ?_) hS0 ?_
      · (try dsimp only at hu); go_simp
      (try simp only [Act.put, List.setIfInBounds_toArray, List.set_cons_zero, List.set_cons_succ])
      refine G_take (i := 4) (oi := { dst := some 17, op := Op.load 88 (Operand.tmp 16), type := 88, pos := _, after := #[{ on := 3, ground := Ground.data }], guard := none }) (v := .agg #[.int .i64 (px : Nat), .int .i64 (py : Nat)]) rfl (by kernel_rfl) (by kernel_rfl) (by kernel_rfl) (by kernel_rfl) (fun _ _ _ h => h) (by rfl) (fun u hu => ?_) hS0 ?_
      · (try dsimp only at hu); go_simp
      (try simp only [Act.put, List.setIfInBounds_toArray, List.set_cons_zero, List.set_cons_succ])
      refine G_step (i := 5) (o := { dst := some 18, op := Op.call { callee := Callee.value (Operand.func 81), args := #[Operand.tmp 13, Operand.tmp 17], argTypes := #[87, 88] }, type := 3, pos := _, after := #[{ on := 0, ground := Ground.data }, { on := 4, ground := Ground.data }], guard := none }) (by kernel_rfl) rfl (fun K' hK => ?_)
      go_simp
      refine CI.out.mono ?_
      rintro e z1 ⟨⟨r, rfl, hr⟩, hbz⟩
      dsimp only
      have HN1 := hid (HU.out.below (((Sm.refl wr).drew.below _).trans hbz))
      have y1 : z1.cell? ⟨Bl, 0, none⟩ = some (.slice va qn vc) := cell_of_cells HN1.out.var rfl
      have hS1 : (fun z : World => z.cell? ⟨Bl, 0, none⟩ = some (.slice va qn vc) ∧ z.cell? ⟨b, k * 2, none⟩ = some (.int .i64 (px : Nat)) ∧ z.cell? ⟨b, k * 2 + 1, none⟩ = some (.int .i64 (py : Nat))) z1 := ⟨y1, below_cell hbz (Nat.le_refl _) hS0.2.1, below_cell hbz (Nat.le_refl _) hS0.2.2⟩
      have HR := hid hr
      have HZ := hid hS1
      clear hr hbz hS0 y0 z0 z1'
      refine hK.out _ _ (fun _ => hS1) (fun _ => ?_)
      (try simp only [Act.put, List.setIfInBounds_toArray, List.set_cons_zero, List.set_cons_succ])
      refine G_step (i := 6) (o := { dst := some 6, op := Op.assign (Operand.tmp 18), type := 3, pos := _, after := #[{ on := 5, ground := Ground.data }, { on := 5, ground := Ground.chain }, { on := 0, ground := Ground.phase }, { on := 1, ground := Ground.phase }, { on := 2, ground := Ground.phase }, { on := 3, ground := Ground.phase }, { on := 4, ground := Ground.phase }, { on := 5, ground := Ground.phase }], guard := none }) (by kernel_rfl) rfl (fun K' hK => ?_)
      go_simp
      refine hK.out _ _ (fun _ => hS1) (fun _ => ?_)
      (try simp only [Act.put, List.setIfInBounds_toArray, List.set_cons_zero, List.set_cons_succ])
      refine G_done (by kernel_rfl) ?_ _
      (try dsimp only [Exit.then])
      clear hS1 y1
      rcases HR.out with ⟨hm, hr⟩ | ⟨hm, rfl⟩
      · have e1 : nAdds P0 (xs.take (k + 1)) = nAdds P0 (xs.take k) := by rw [List.take_add_one, HX.out]; show nAdds P0 (xs.take k ++ [(px, py)]) = _; rw [nAdds_snoc, nAdd, if_pos hm]
        have HE := hid e1
        obtain ⟨m, hmx⟩ : ∃ m, ix (px, py) (nAdds P0 (xs.take k)) = m := ⟨_, rfl⟩
        rw [hmx] at hr
        subst hr
        have HMX := hid hmx
        have HO1 : Hid (z1.ownsRow w.heap.size 3 1 (.slice la k lc) k (vals (cs ((xs.take k).map fun p => ix p (nAdds P0 (xs.take k)))))) := hid (by have := HN1.out.out; rw [HNL.out] at this; exact this)
        have hg0 : ¬ ((m : Nat) : Int) < 0 := by omega
        have hzs : w.heap.size ≤ z1.heap.size := HN1.out.fr.size
        clear hm e1 hmx
        go_wp2_with (at_builtin; refine wpList_append_own_at _ rfl _ _ 22 rfl w.heap.size 3 i0 (.int .i64 0) 1 8 Tryd.underlying22 HI.out.1 HI.out.2.1 HI.out.2.2.1 HI.out.2.2.2 rfl (by decide) _ _ _ rfl (HO1.out.alloc _) ⟨z1.heap.size, 0, none⟩ 1 1 [.int .i64 ((m : Nat) : Int)] rfl rfl (cell_one_new _ _ _) (ints_oneCell .i64 [((m : Nat) : Int)]) (by unfold maxLen; omega) (by omega) (by simp; omega) ?_; intro v' w7 hown' hgrow hnil hloc; have G := hid (nu_num (k := k) (lv' := v') HX.out HN1.out.var (by rw [HE.out]; exact HN1.out.own) (by rw [HE.out]; exact HN1.out.out) HN1.out.fr HN1.out.loc (by rw [HE.out, HNL.out, HMX.out]; exact hown') hgrow); clear hown' hgrow hnil hloc)
        go_roundw
        case rel => exact ⟨k + 1, _, by omega, by go_num, G⟩
        case measure => simp [intOf]; omega
      · have HNEW := hid hm
        have HOW : Hid (z1.ownsRow 0 88 2 (.slice va qn vc) qn (pcells (nAdds P0 (xs.take k)))) := hid (by have := HN1.out.own; rw [HQN.out] at this; exact this)
        have y1 : z1.cell? ⟨Bl, 0, none⟩ = some (.slice va qn vc) := HZ.out.1
        have hS2 : (fun z : World => z.cell? ⟨Bl, 0, none⟩ = some (.slice va qn vc) ∧ z.cell? ⟨b, k * 2, none⟩ = some (.int .i64 (px : Nat)) ∧ z.cell? ⟨b, k * 2 + 1, none⟩ = some (.int .i64 (py : Nat))) z1.drew := HZ.out
        have hS3 : (fun z : World => z.cell? ⟨Bl, 0, none⟩ = some (.slice va qn vc) ∧ z.cell? ⟨b, k * 2, none⟩ = some (.int .i64 (px : Nat)) ∧ z.cell? ⟨b, k * 2 + 1, none⟩ = some (.int .i64 (py : Nat))) (z1.alloc (.cells #[.int .i64 (px : Nat), .int .i64 (py : Nat)] 88)).drew := ⟨cell_alloc1 _ HZ.out.1, cell_alloc1 _ HZ.out.2.1, cell_alloc1 _ HZ.out.2.2⟩
        have hUb : (z1.alloc (.cells #[.int .i64 (px : Nat), .int .i64 (py : Nat)] 88)).heap[z1.heap.size]? = some (.cells #[.int .i64 (px : Nat), .int .i64 (py : Nat)] 88) := Go.Deep.blk_alloc_new _ _
        clear hm
        go_wp2_with fail
        clear y1
        refine G_region (fun z : World => z.cell? ⟨Bl, 0, none⟩ = some (.slice va qn vc) ∧ z.cell? ⟨b, k * 2, none⟩ = some (.int .i64 (px : Nat)) ∧ z.cell? ⟨b, k * 2 + 1, none⟩ = some (.int .i64 (py : Nat))) (fun i => i == 7) (by kernel_rfl) hS2 (fun _ => ?_)
        refine G_take (i := 0) (oi := { dst := some 23, op := Op.load 87 (Operand.tmp 1), type := 87, pos := _, after := #[], guard := none }) (v := .slice va qn vc) rfl (by kernel_rfl) (by kernel_rfl) (by kernel_rfl) (by kernel_rfl) (fun _ _ _ h => h) (by rfl) (fun u hu => ?_) hS2 ?_
        · (try dsimp only at hu); go_simp
        (try simp only [Act.put, List.setIfInBounds_toArray, List.set_cons_zero, List.set_cons_succ])
        refine G_take (i := 1) (oi := { dst := some 24, op := Op.move (Operand.tmp 0), type := 87, pos := _, after := #[], guard := none }) (v := .slice (some ⟨b, 0, none⟩) n c) rfl (by kernel_rfl) (by kernel_rfl) (by kernel_rfl) (by kernel_rfl) (fun _ _ _ h => h) (by rfl) (fun u hu => ?_) hS2 ?_
        · (try dsimp only at hu); go_simp
        (try simp only [Act.put, List.setIfInBounds_toArray, List.set_cons_zero, List.set_cons_succ])
        refine G_take (i := 2) (oi := { dst := some 25, op := Op.move (Operand.tmp 5), type := 3, pos := _, after := #[], guard := none }) (v := .int .i64 (k : Nat)) rfl (by kernel_rfl) (by kernel_rfl) (by kernel_rfl) (by kernel_rfl) (fun _ _ _ h => h) (by rfl) (fun u hu => ?_) hS2 ?_
        · (try dsimp only at hu); go_simp
        (try simp only [Act.put, List.setIfInBounds_toArray, List.set_cons_zero, List.set_cons_succ])
        refine G_take (i := 3) (oi := { dst := some 26, op := Op.indexAddr 87 (Operand.tmp 24) (Operand.tmp 25), type := 0, pos := _, after := #[{ on := 1, ground := Ground.data }, { on := 2, ground := Ground.data }], guard := none }) (v := .pointer (some ⟨b, k * 2, none⟩)) rfl (by kernel_rfl) (by kernel_rfl) (by kernel_rfl) (by kernel_rfl) (fun _ _ _ h => h) (by rfl) (fun u hu => ?_) hS2 ?_
        · (try dsimp only at hu); go_simp
        (try simp only [Act.put, List.setIfInBounds_toArray, List.set_cons_zero, List.set_cons_succ])
        refine G_take (i := 4) (oi := { dst := some 27, op := Op.load 88 (Operand.tmp 26), type := 88, pos := _, after := #[{ on := 3, ground := Ground.data }], guard := none }) (v := .agg #[.int .i64 (px : Nat), .int .i64 (py : Nat)]) rfl (by kernel_rfl) (by kernel_rfl) (by kernel_rfl) (by kernel_rfl) (fun _ _ _ h => h) (by rfl) (fun u hu => ?_) hS2 ?_
        · (try dsimp only at hu); go_simp
        (try simp only [Act.put, List.setIfInBounds_toArray, List.set_cons_zero, List.set_cons_succ])
        refine G_step (i := 5) (o := { dst := some 28, op := Op.buildSlice 87 1 #[(0, Operand.tmp 27)], type := 87, pos := _, after := #[{ on := 4, ground := Ground.data }], guard := none }) (by kernel_rfl) rfl (fun K' hK => ?_)
        go_simp
        refine hK.out _ _ (fun _ => hS3) (fun _ => ?_)
        (try simp only [Act.put, List.setIfInBounds_toArray, List.set_cons_zero, List.set_cons_succ])
        refine G_step (i := 6) (o := { dst := some 29, op := Op.call { callee := Callee.builtin Builtin.append, args := #[Operand.tmp 23, Operand.tmp 28], argTypes := #[87, 87] }, type := 87, pos := _, after := #[{ on := 0, ground := Ground.data }, { on := 5, ground := Ground.data }], guard := none }) (by kernel_rfl) rfl (fun K' hK => ?_)
        refine step_append_lies _ (by rfl) _ _ _ (by rfl) 0 88 i5 _ 2 16 Tryd.underlying87 HJ.out.1 HJ.out.2.1 HJ.out.2.2.1 HJ.out.2.2.2 rfl (by omega) (.slice va qn vc) qn (pcells (nAdds P0 (xs.take k))) (by rfl) ((HOW.out.alloc _).drew) ⟨z1.heap.size, 0, none⟩ 1 1 [.int .i64 (px : Nat), .int .i64 (py : Nat)] (by rfl) (by rfl) (World.news_of_block (w := (z1.alloc (.cells #[.int .i64 (px : Nat), .int .i64 (py : Nat)] 88)).drew) (cs := #[.int .i64 (px : Nat), .int .i64 (py : Nat)]) (t := 88) (fr := (0, 0)) hUb) (by simp [Value.oneCell']) (by omega) (by unfold maxLen; omega) (by omega) (Nat.zero_le _) (z1.heap.size + 1) (by simp) ?_
        intro g cap w4 hown4 hgrow4 hat4 hlt4
        have hgr : (z1.alloc (.cells #[.int .i64 (px : Nat), .int .i64 (py : Nat)] 88)).grownBy w4 (Value.slice va qn vc).ownBlock := ⟨hgrow4.os, hgrow4.tape, hgrow4.output, hgrow4.size, hgrow4.block⟩
        obtain ⟨q1, q2, q3, HP⟩ := HN1.out.put (p := (px, py)) (pv' := .slice (some ⟨g, 0, none⟩) (qn + 1) cap) HX.out HNEW.out (by rw [HQN.out]; exact hown4) hgr (hat4.imp (fun e => by rw [e]; simp [Value.ownBlock]) (fun e => by rw [e]; simp [Value.ownBlock]))
        have hbne : (Value.slice va qn vc).ownBlock ≠ some b := HAP.out
        have s4 : (fun z : World => z.cell? ⟨Bl, 0, none⟩ = some (.slice va qn vc) ∧ z.cell? ⟨b, k * 2, none⟩ = some (.int .i64 (px : Nat)) ∧ z.cell? ⟨b, k * 2 + 1, none⟩ = some (.int .i64 (py : Nat))) w4 := ⟨q1, (World.cell?_of_block (w := z1) (a := ⟨b, k * 2, none⟩) (q3 b (World.block_lt_of_cell? _ _ HZ.out.2.1) hbne)).trans HZ.out.2.1, (World.cell?_of_block (w := z1) (a := ⟨b, k * 2 + 1, none⟩) (q3 b (World.block_lt_of_cell? _ _ HZ.out.2.1) hbne)).trans HZ.out.2.2⟩
        clear hown4 hgrow4 hgr hat4 hlt4 q3 hUb hS3 hbne
        refine hK.out _ _ (fun _ => s4) (fun _ => ?_)
        (try simp only [Act.put, List.setIfInBounds_toArray, List.set_cons_zero, List.set_cons_succ])
        refine G_step (i := 7) (o := { dst := none, op := Op.store 87 (Operand.tmp 1) (Operand.tmp 29), type := 0, pos := _, after := #[{ on := 6, ground := Ground.data }, { on := 6, ground := Ground.chain }, { on := 0, ground := Ground.phase }, { on := 1, ground := Ground.phase }, { on := 2, ground := Ground.phase }, { on := 3, ground := Ground.phase }, { on := 4, ground := Ground.phase }, { on := 5, ground := Ground.phase }, { on := 6, ground := Ground.phase }], guard := none }) (by kernel_rfl) rfl (fun K' hK => ?_)
        go_simp
        refine hK.out _ _ (fun h => absurd h (by decide)) (fun _ => ?_)
        (try simp only [Act.put, List.setIfInBounds_toArray, List.set_cons_zero, List.set_cons_succ])
        refine G_done (by kernel_rfl) ?_ _
        (try dsimp only [Exit.then])
        clear s4 q1 q2 hS2
        generalize w4.setCell ⟨Bl, 0, none⟩ (.slice (some ⟨g, 0, none⟩) (qn + 1) cap) = W5 at *
        have hix : ix (px, py) (nAdds P0 (xs.take (k + 1))) = qn := by
          rw [← HQN.out, List.take_add_one, HX.out]
          show ix (px, py) (nAdds P0 (xs.take k ++ [(px, py)])) = _
          rw [nAdds_snoc, nAdd, if_neg HNEW.out]
          exact ix_new HNEW.out
        have HIX := hid hix
        have hlk : (cs ((xs.take k).map fun p => ix p (nAdds P0 (xs.take (k + 1))))).length = k := by have := HNL.out; rw [cs_len, List.length_map] at this ⊢; exact this
        have HLE := hid hlk
        have h5s : w.heap.size ≤ W5.heap.size := HP.out.2.2.2.1.size
        have HO5 : Hid (W5.ownsRow w.heap.size 3 1 (.slice la k lc) k (vals (cs ((xs.take k).map fun p => ix p (nAdds P0 (xs.take (k + 1))))))) := hid (by have := HP.out.2.2.1; rw [HLE.out] at this; exact this)
        clear hix hlk
        go_wp2_with (at_builtin; refine wpList_append_own_at _ rfl _ _ 22 rfl w.heap.size 3 i0 (.int .i64 0) 1 8 Tryd.underlying22 HI.out.1 HI.out.2.1 HI.out.2.2.1 HI.out.2.2.2 rfl (by decide) _ _ _ rfl (HO5.out.alloc _) ⟨W5.heap.size, 0, none⟩ 1 1 [.int .i64 ((qn : Nat) : Int)] rfl rfl (cell_one_new _ _ _) (ints_oneCell .i64 [((qn : Nat) : Int)]) (by unfold maxLen; omega) (by omega) (by simp; omega) ?_; intro v' w7 hown' hgrow hnil hloc; have G := hid (nu_num (k := k) (lv' := v') HX.out HP.out.1 HP.out.2.1 HP.out.2.2.1 HP.out.2.2.2.1 HP.out.2.2.2.2 (by rw [HIX.out, HLE.out]; exact hown') hgrow); clear hown' hgrow hnil hloc)
        go_roundw
        case rel => exact ⟨k + 1, _, by omega, by go_num, G⟩
        case measure => simp [intOf]; omega
    · have HK : Hid (k = n) := hid (by omega)
      obtain ⟨zs, hzs⟩ : ∃ zs, (fun i => (cs ((xs.take k).map fun p => ix p (nAdds P0 (xs.take k)))).getD i 0) = zs := ⟨_, rfl⟩
      rw [hzs] at hrow
      have HZS := hid hzs
      clear hzs
      have C := hid (onceD la k lc zs wr (by have := HLn.out; omega) hrow (fun i _ => by rw [← HZS.out]; show 0 ≤ (cs ((xs.take k).map fun p => ix p (nAdds P0 (xs.take k)))).getD i 0; rw [cs_at]; omega))
      clear hrow hsp
      go_wp2_with fail
      refine C.out.mono ?_
      rintro e w9 ⟨l9, c9, rfl, H9⟩
      have hall : xs.take k = xs := List.take_of_length_le (by have := HA.out.1; have := HK.out; omega)
      have hon : onN zs k = nNums (nAdds P0 xs) xs := by
        have hk9 := HNL.out
        rw [← HZS.out]
        rw [hall] at hk9 ⊢
        rw [cs_len] at hk9
        unfold onN nNums
        congr 1
        rw [← hk9]
        apply List.ext_getElem?
        intro i
        by_cases hi : i < (xs.map fun p => ix p (nAdds P0 xs)).length
        · rw [List.getElem?_map, List.getElem?_range hi, Option.map_some]
          show some ((cs (xs.map fun p => ix p (nAdds P0 xs))).getD i 0).toNat = _
          rw [cs_at, List.getD_eq_getElem?_getD, List.getElem?_eq_getElem hi]
          simp
        · rw [List.getElem?_eq_none (by simpa using hi), List.getElem?_eq_none (by simpa using hi)]
      have HF := hid (HU.out.below H9.out.2)
      have h91 := H9.out.1
      rw [hon] at h91
      have hlen9 : (onN zs k).length = (nNums (nAdds P0 xs) xs).length := by rw [hon]
      have HH := hid (And.intro h91 (And.intro hall hlen9))
      clear h91 hall hlen9 hon
      go_wp2
      go_ret
      refine ⟨l9, c9, _, by rw [← HH.out.2.2]; rfl, hid ⟨HF.out.var, ?_, owns_mono HH.out.1 HU.out.fr.size, HF.out.fr, HF.out.loc⟩⟩
      have := HF.out.own
      rw [HH.out.2.1] at this
      exact this

end Go.Proofs.YtdncjikmknkkpaaDoor
