/- The document's Index of pairs. -/
import Derived.Test.YtdncjikmknkkpaaDno
import Derived.Test.YtdncjikmknkkpaaSgx
namespace Go.Proofs.Ytdncjikmknkkpaa
open Go.RowKit

theorem Try.cells59 : Try.prog.cellsOf 59 = 2 := by kernel_rfl
theorem Try.cells3q : Try.prog.cellsOf 3 = 1 := by kernel_rfl
set_option maxRecDepth 100000 in
theorem Try.keyD : Try.prog.keyTypeAt 2 59 = true := by kernel_rfl
set_option maxRecDepth 100000 in
theorem lits59 {x y : Nat} (hx : x < 4096) (hy : y < 4096) : Try.prog.keyLits 2 59 (Value.agg #[.int .i64 (x : Nat), .int .i64 (y : Nat)]).cells.toList = some [.int .i64 x, .int .i64 y] := by
  have w1 : (Lit.int .i64 (x : Int)).wf = true := WalkArith.wf_i64 (by omega)
  have w2 : (Lit.int .i64 (y : Int)).wf = true := WalkArith.wf_i64 (by omega)
  simp [Program.keyLits, Try.underlying59, Try.underlying3, Value.cells, Try.cells59, Try.cells3q, w1, w2, List.range, List.range.loop]
set_option maxRecDepth 100000 in
/-- Two pairs compared. -/
theorem eq59 {x y x' y' : Nat} (h1 : x < 4096) (h2 : y < 4096) (h3 : x' < 4096) (h4 : y' < 4096) (u : World) : (Op.equalIn 10000 59 (.agg #[.int .i64 (x : Nat), .int .i64 (y : Nat)]) (.agg #[.int .i64 (x' : Nat), .int .i64 (y' : Nat)])).run Try.prog u = .ok (decide (x = x' ∧ y = y')) u := by
  obtain ⟨r, hr, hi⟩ := run_equalIn_deep (P := Try.prog) 9998 2 59 Try.keyD u 2 2 _ _ _ _ (by simp [Value.formed, Try.underlying59, Try.cells59]) (by simp [Value.formed, Try.underlying59, Try.cells59]) (lits59 h1 h2) (lits59 h3 h4)
  have hr2 : (Op.equalIn 10000 59 (.agg #[.int .i64 (x : Nat), .int .i64 (y : Nat)]) (.agg #[.int .i64 (x' : Nat), .int .i64 (y' : Nat)])).run Try.prog u = .ok r u := hr
  rw [hr2]
  congr 1
  rw [Bool.eq_iff_iff, hi, decide_eq_true_eq]
  simp
  omega

set_option maxRecDepth 100000 in
set_option maxHeartbeats 2000000 in
theorem idxP (a : Option Addr) (n c : Nat) (L : List (Nat × Nat)) (p : Nat × Nat) (w : World) (hn : n = L.length) (hb4 : n ≤ 4398046511104) (hnd : L.Nodup) (hsm : ∀ q ∈ L, Sml q) (hp : Sml p) (h : Sp w a n (nAt L)) :
    Calls Try.prog 36 #[.slice a n c, .agg #[.int .i64 (p.1 : Nat), .int .i64 (p.2 : Nat)]] w fun e w' => (∃ r : Int, e = .returned (.int .i64 r) ∧ ((p ∈ L ∧ r = (ix p L : Nat)) ∨ (p ∉ L ∧ r = -1))) ∧ Below w.heap.size w w' := by
  obtain ⟨b, ha, hc⟩ := h
  have HC := hid hc
  have HN := hid (And.intro hn hnd)
  have HSm := hid (And.intro hsm hp)
  clear hc hn hnd hsm hp
  obtain ⟨px, py⟩ := p
  dsimp only
  obtain ⟨W1, hW1, hb1, hs1, x0, x1⟩ := box2 w (.int .i64 (px : Nat)) (.int .i64 (py : Nat)) 59
  have HB1 := hid (And.intro hb1 (And.intro x0 x1))
  clear hb1 hs1 x0 x1
  go_enter Try.func36, Try.ntmps36
  go_wp2
  go_loopw [8] (fun i wr => ∃ k : Nat, k ≤ n ∧ i = .int .i64 k ∧ Hid (Sm W1 wr ∧ ∀ j, j < k → nAt L j ≠ (px, py))) (fun i _ => n - (intOf i).toNat)
  case atStart => exact ⟨0, Nat.zero_le _, rfl, hid ⟨Sm.refl _, fun j hj => absurd hj (Nat.not_lt_zero _)⟩⟩
  case round =>
    obtain ⟨k, hk, rfl, H⟩ := hrel
    by_cases hlt : k < n
    · obtain rfl := ha (by omega)
      obtain ⟨c0, c1⟩ := HC.out k hlt
      have hL : L[k]? = some (nAt L k) := nAt_some (by have := HN.out.1; omega)
      have z0 : wr.cell? ⟨b, k * 2, none⟩ = _ := (H.out.1.cell _).trans (below_cell HB1.out.1 (Nat.le_refl _) c0)
      have z1 : wr.cell? ⟨b, k * 2 + 1, none⟩ = _ := (H.out.1.cell _).trans (below_cell HB1.out.1 (Nat.le_refl _) c1)
      have y0 : wr.cell? ⟨w.heap.size, 0, none⟩ = _ := (H.out.1.cell _).trans HB1.out.2.1
      have y1 : wr.cell? ⟨w.heap.size, 1, none⟩ = _ := (H.out.1.cell _).trans HB1.out.2.2
      obtain ⟨q, hq⟩ : ∃ q, nAt L k = q := ⟨_, rfl⟩
      rw [hq] at z0 z1 hL
      obtain ⟨qx, qy⟩ := q
      dsimp only at z0 z1
      have HL := hid (And.intro hL hq)
      have hs1 : Sml (qx, qy) := HSm.out.1 _ (List.mem_of_getElem? hL)
      have hs2 : Sml (px, py) := HSm.out.2
      have heq := fun u => eq59 hs2.1 hs2.2 hs1.1 hs1.2 u
      dsimp only at heq
      clear hs1 hs2
      have hS0 : (fun z : World => z.cell? ⟨w.heap.size, 0, none⟩ = some (.int .i64 (px : Nat)) ∧ z.cell? ⟨w.heap.size, 1, none⟩ = some (.int .i64 (py : Nat)) ∧ z.cell? ⟨b, k * 2, none⟩ = some (.int .i64 (qx : Nat)) ∧ z.cell? ⟨b, k * 2 + 1, none⟩ = some (.int .i64 (qy : Nat))) wr.drew := ⟨y0, y1, z0, z1⟩
      clear c0 c1 hL hq
      by_cases e : px = qx ∧ py = qy
      · rw [decide_eq_true e] at heq
        have HE := hid e
        clear e
        go_wp2_with fail
        refine G_region (fun z : World => z.cell? ⟨w.heap.size, 0, none⟩ = some (.int .i64 (px : Nat)) ∧ z.cell? ⟨w.heap.size, 1, none⟩ = some (.int .i64 (py : Nat)) ∧ z.cell? ⟨b, k * 2, none⟩ = some (.int .i64 (qx : Nat)) ∧ z.cell? ⟨b, k * 2 + 1, none⟩ = some (.int .i64 (qy : Nat))) (fun _ => false) (by kernel_rfl) hS0 (fun _ => ?_)
        refine G_take (i := 0) (oi := { dst := some 11, op := Op.load 59 (Operand.tmp 3), type := 59, pos := _, after := #[], guard := none }) (v := .agg #[.int .i64 (px : Nat), .int .i64 (py : Nat)]) rfl (by kernel_rfl) (by kernel_rfl) (by kernel_rfl) (by kernel_rfl) (fun _ _ _ h => h) (by rfl) (fun u hu => ?_) hS0 ?_
        · (try dsimp only at hu); go_simp
        (try simp only [Act.put, List.setIfInBounds_toArray, List.set_cons_zero, List.set_cons_succ])
        refine G_take (i := 1) (oi := { dst := some 12, op := Op.move (Operand.tmp 0), type := 58, pos := _, after := #[], guard := none }) (v := .slice (some ⟨b, 0, none⟩) n c) rfl (by kernel_rfl) (by kernel_rfl) (by kernel_rfl) (by kernel_rfl) (fun _ _ _ h => h) (by rfl) (fun u hu => ?_) hS0 ?_
        · (try dsimp only at hu); go_simp
        (try simp only [Act.put, List.setIfInBounds_toArray, List.set_cons_zero, List.set_cons_succ])
        refine G_take (i := 2) (oi := { dst := some 13, op := Op.move (Operand.tmp 5), type := 3, pos := _, after := #[], guard := none }) (v := .int .i64 (k : Nat)) rfl (by kernel_rfl) (by kernel_rfl) (by kernel_rfl) (by kernel_rfl) (fun _ _ _ h => h) (by rfl) (fun u hu => ?_) hS0 ?_
        · (try dsimp only at hu); go_simp
        (try simp only [Act.put, List.setIfInBounds_toArray, List.set_cons_zero, List.set_cons_succ])
        refine G_take (i := 3) (oi := { dst := some 14, op := Op.indexAddr 58 (Operand.tmp 12) (Operand.tmp 13), type := 0, pos := _, after := #[{ on := 1, ground := Ground.data }, { on := 2, ground := Ground.data }], guard := none }) (v := .pointer (some ⟨b, k * 2, none⟩)) rfl (by kernel_rfl) (by kernel_rfl) (by kernel_rfl) (by kernel_rfl) (fun _ _ _ h => h) (by rfl) (fun u hu => ?_) hS0 ?_
        · (try dsimp only at hu); go_simp
        (try simp only [Act.put, List.setIfInBounds_toArray, List.set_cons_zero, List.set_cons_succ])
        refine G_take (i := 4) (oi := { dst := some 15, op := Op.load 59 (Operand.tmp 14), type := 59, pos := _, after := #[{ on := 3, ground := Ground.data }], guard := none }) (v := .agg #[.int .i64 (qx : Nat), .int .i64 (qy : Nat)]) rfl (by kernel_rfl) (by kernel_rfl) (by kernel_rfl) (by kernel_rfl) (fun _ _ _ h => h) (by rfl) (fun u hu => ?_) hS0 ?_
        · (try dsimp only at hu); go_simp
        (try simp only [Act.put, List.setIfInBounds_toArray, List.set_cons_zero, List.set_cons_succ])
        refine G_take (i := 5) (oi := { dst := some 16, op := Op.binOp BinOp.eql 59 (Operand.tmp 11) (Operand.tmp 15) 59, type := 4, pos := _, after := #[{ on := 0, ground := Ground.data }, { on := 4, ground := Ground.data }], guard := none }) (v := .bool true) rfl (by kernel_rfl) (by kernel_rfl) (by kernel_rfl) (by kernel_rfl) (fun _ _ _ h => h) (by rfl) (fun u hu => ?_) hS0 ?_
        · (try dsimp only at hu); go_simp
        (try simp only [Act.put, List.setIfInBounds_toArray, List.set_cons_zero, List.set_cons_succ])
        refine G_done (by kernel_rfl) ?_ _
        (try dsimp only [Exit.then])
        go_wp2
        go_ret
        obtain ⟨rfl, rfl⟩ := HE.out
        refine ⟨⟨_, rfl, Or.inl ⟨List.mem_of_getElem? HL.out.1, ?_⟩⟩, HB1.out.1.trans (H.out.1.drew.below _)⟩
        rw [at_ix HN.out.2 HL.out.1]
      · have HE := hid e
        rw [decide_eq_false e] at heq
        clear e
        go_wp2_with fail
        refine G_region (fun z : World => z.cell? ⟨w.heap.size, 0, none⟩ = some (.int .i64 (px : Nat)) ∧ z.cell? ⟨w.heap.size, 1, none⟩ = some (.int .i64 (py : Nat)) ∧ z.cell? ⟨b, k * 2, none⟩ = some (.int .i64 (qx : Nat)) ∧ z.cell? ⟨b, k * 2 + 1, none⟩ = some (.int .i64 (qy : Nat))) (fun _ => false) (by kernel_rfl) hS0 (fun _ => ?_)
        refine G_take (i := 0) (oi := { dst := some 11, op := Op.load 59 (Operand.tmp 3), type := 59, pos := _, after := #[], guard := none }) (v := .agg #[.int .i64 (px : Nat), .int .i64 (py : Nat)]) rfl (by kernel_rfl) (by kernel_rfl) (by kernel_rfl) (by kernel_rfl) (fun _ _ _ h => h) (by rfl) (fun u hu => ?_) hS0 ?_
        · (try dsimp only at hu); go_simp
        (try simp only [Act.put, List.setIfInBounds_toArray, List.set_cons_zero, List.set_cons_succ])
        refine G_take (i := 1) (oi := { dst := some 12, op := Op.move (Operand.tmp 0), type := 58, pos := _, after := #[], guard := none }) (v := .slice (some ⟨b, 0, none⟩) n c) rfl (by kernel_rfl) (by kernel_rfl) (by kernel_rfl) (by kernel_rfl) (fun _ _ _ h => h) (by rfl) (fun u hu => ?_) hS0 ?_
        · (try dsimp only at hu); go_simp
        (try simp only [Act.put, List.setIfInBounds_toArray, List.set_cons_zero, List.set_cons_succ])
        refine G_take (i := 2) (oi := { dst := some 13, op := Op.move (Operand.tmp 5), type := 3, pos := _, after := #[], guard := none }) (v := .int .i64 (k : Nat)) rfl (by kernel_rfl) (by kernel_rfl) (by kernel_rfl) (by kernel_rfl) (fun _ _ _ h => h) (by rfl) (fun u hu => ?_) hS0 ?_
        · (try dsimp only at hu); go_simp
        (try simp only [Act.put, List.setIfInBounds_toArray, List.set_cons_zero, List.set_cons_succ])
        refine G_take (i := 3) (oi := { dst := some 14, op := Op.indexAddr 58 (Operand.tmp 12) (Operand.tmp 13), type := 0, pos := _, after := #[{ on := 1, ground := Ground.data }, { on := 2, ground := Ground.data }], guard := none }) (v := .pointer (some ⟨b, k * 2, none⟩)) rfl (by kernel_rfl) (by kernel_rfl) (by kernel_rfl) (by kernel_rfl) (fun _ _ _ h => h) (by rfl) (fun u hu => ?_) hS0 ?_
        · (try dsimp only at hu); go_simp
        (try simp only [Act.put, List.setIfInBounds_toArray, List.set_cons_zero, List.set_cons_succ])
        refine G_take (i := 4) (oi := { dst := some 15, op := Op.load 59 (Operand.tmp 14), type := 59, pos := _, after := #[{ on := 3, ground := Ground.data }], guard := none }) (v := .agg #[.int .i64 (qx : Nat), .int .i64 (qy : Nat)]) rfl (by kernel_rfl) (by kernel_rfl) (by kernel_rfl) (by kernel_rfl) (fun _ _ _ h => h) (by rfl) (fun u hu => ?_) hS0 ?_
        · (try dsimp only at hu); go_simp
        (try simp only [Act.put, List.setIfInBounds_toArray, List.set_cons_zero, List.set_cons_succ])
        refine G_take (i := 5) (oi := { dst := some 16, op := Op.binOp BinOp.eql 59 (Operand.tmp 11) (Operand.tmp 15) 59, type := 4, pos := _, after := #[{ on := 0, ground := Ground.data }, { on := 4, ground := Ground.data }], guard := none }) (v := .bool false) rfl (by kernel_rfl) (by kernel_rfl) (by kernel_rfl) (by kernel_rfl) (fun _ _ _ h => h) (by rfl) (fun u hu => ?_) hS0 ?_
        · (try dsimp only at hu); go_simp
        (try simp only [Act.put, List.setIfInBounds_toArray, List.set_cons_zero, List.set_cons_succ])
        refine G_done (by kernel_rfl) ?_ _
        (try dsimp only [Exit.then])
        go_wp2
        go_roundw
        case rel => exact ⟨k + 1, by omega, by go_num, hid ⟨H.out.1.drew, fun j hj => by
          by_cases e : j = k
          · subst e; rw [HL.out.2]; intro hh; cases hh; exact HE.out ⟨rfl, rfl⟩
          · exact H.out.2 j (by omega)⟩⟩
        case measure => simp [intOf]; omega
    · go_wp2
      go_ret
      refine ⟨⟨_, rfl, Or.inr ⟨fun hm => ?_, rfl⟩⟩, HB1.out.1.trans (H.out.1.below _)⟩
      have h1 := ix_lt hm
      have h2 : nAt L (ix (px, py) L) = (px, py) := by unfold nAt; rw [List.getD_eq_getElem?_getD, ix_at hm]; rfl
      exact H.out.2 _ (by have := HN.out.1; omega) h2

end Go.Proofs.Ytdncjikmknkkpaa
