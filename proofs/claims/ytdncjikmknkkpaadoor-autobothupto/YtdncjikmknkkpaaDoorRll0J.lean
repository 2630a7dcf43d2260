/- The roll's list: what it has in memory while pairs come. The roll's list: its contract. -/
import Derived.Maps.OwnIn
import Derived.Test.YtdncjikmknkkpaaDoorOnc
import Derived.Test.YtdncjikmknkkpaaDoorPrd
namespace Go.Proofs.YtdncjikmknkkpaaDoor
open Go.RowKit Go.Shelf Go.Maps

theorem map_of_block {w w' : World} {k : TypeId} {R : Value → Option (DataW Unit × List MemPlace)} {b n : Nat} {D : DataW Unit} (h : w.ownsMap Tryd.prog k R b n D) (e : w'.heap[b]? = w.heap[b]?) : w'.ownsMap Tryd.prog k R b n D := by
  obtain ⟨es, clock, hb, r⟩ := h
  exact ⟨es, clock, e.trans hb, r⟩
theorem map_lt {w : World} {k : TypeId} {R : Value → Option (DataW Unit × List MemPlace)} {b n : Nat} {D : DataW Unit} (h : w.ownsMap Tryd.prog k R b n D) : ∃ es c, w.heap[b]? = some (.map es c) := by
  obtain ⟨es, clock, hb, r⟩ := h
  exact ⟨es, clock, hb⟩
theorem owns_blk {w : World} {base : Nat} {e : TypeId} {size : Nat} {v : Value} {n : Nat} {xs : List Value} (h : w.ownsRow base e size v n xs) {b : Nat} (hb : v.ownBlock = some b) : ∃ c z, w.heap[b]? = some (.cells c e z) := by
  rcases h.2 with ⟨rfl, h0⟩ | ⟨g, cap, cur, rfl, hb2, hg, _⟩
  · simp [Value.ownBlock] at hb
  · simp [Value.ownBlock] at hb
    subst hb
    exact ⟨_, _, hg⟩
theorem gb_set (w : World) (a : Addr) (v : Value) : w.grownBy (w.setCell a v) (some a.block) :=
  ⟨rfl, rfl, rfl, by simp, fun k _ hne => Below.heap_setCell _ _ _ _ (fun e => hne (by rw [e]))⟩
theorem owns_kept {w w' : World} {base : Nat} {e : TypeId} {size : Nat} {v : Value} {n : Nat} {xs : List Value} {row : Option Nat} (h : w.ownsRow base e size v n xs) (hg : w.grownBy w' row) (hr : ∀ b, v.ownBlock = some b → row ≠ some b) : w'.ownsRow base e size v n xs :=
  h.kept hg (by
    cases hv : v.ownBlock with
    | none => exact Or.inl rfl
    | some b => exact Or.inr (fun ee => hr b hv ee.symm))

/-- The roll's blocks are apart. -/
theorem Rol.apart {w : World} {rb mb : Nat} {pv : Value} {P : List (Nat × Nat)} {D : DataW Unit} (h : Rol w rb mb pv P D) : rb ≠ mb ∧ (∀ b, pv.ownBlock = some b → b ≠ rb ∧ b ≠ mb) ∧ rb < w.heap.size ∧ mb < w.heap.size := by
  obtain ⟨es, c, hm⟩ := map_lt h.map
  have hr := h.blk
  refine ⟨fun e => ?_, fun b hb => ?_, (Array.getElem?_eq_some_iff.1 hr).1, (Array.getElem?_eq_some_iff.1 hm).1⟩
  · rw [e, hm] at hr
    cases hr
  · obtain ⟨cc, z, hc⟩ := owns_blk h.own hb
    refine ⟨fun e => ?_, fun e => ?_⟩
    · rw [e, hr] at hc
      cases hc
    · rw [e, hm] at hc
      cases hc

theorem Rol.of {w w' : World} {rb mb : Nat} {pv : Value} {P : List (Nat × Nat)} {D : DataW Unit} (h : Rol w rb mb pv P D) (h1 : w'.heap[rb]? = w.heap[rb]?) (h2 : w'.heap[mb]? = w.heap[mb]?) (h3 : w'.ownsRow 0 79 2 pv P.length (pcells P)) : Rol w' rb mb pv P D :=
  ⟨h1.trans h.blk, map_of_block h.map h2, h.nmp, h3⟩
theorem Rol.below {w w' : World} {rb mb : Nat} {pv : Value} {P : List (Nat × Nat)} {D : DataW Unit} (h : Rol w rb mb pv P D) (hb : Below w.heap.size w w') : Rol w' rb mb pv P D :=
  h.of (hb.block _ h.apart.2.2.1) (hb.block _ h.apart.2.2.2) (owns_below h.own hb)

/-- While pairs come: w is the world of the call, w1 that of the loop. -/
structure Ri (w w1 : World) (rb mb : Nat) (pv : Value) (Q : List (Nat × Nat)) (nums : List Nat) (W : World) (pv' lv : Value) (D' : DataW Unit) : Prop where
  rol : Rol W rb mb pv' Q D'
  old : ∀ b, w.heap.size ≤ b → b < w.heap.size + 3 → W.heap[b]? = w1.heap[b]?
  lst : W.heap[w.heap.size + 3]? = some (.cells #[lv] 22)
  own : W.ownsRow w1.heap.size 3 1 lv (cs nums).length (vals (cs nums))
  fr : Fr (rex rb mb pv) w W
  sz : w1.heap.size ≤ W.heap.size
  loc : pv'.ownBlock = pv.ownBlock ∨ ∀ b, pv'.ownBlock = some b → w1.heap.size ≤ b
  ap : ∀ b, lv.ownBlock = some b → pv'.ownBlock ≠ some b

/-- What is so at the call. -/
structure Rcl (w w1 : World) (rb mb : Nat) (pv : Value) : Prop where
  s1 : w1.heap.size = w.heap.size + 4
  rb : rb < w.heap.size
  mb : mb < w.heap.size
  pv : ∀ b, pv.ownBlock = some b → b < w.heap.size

theorem Ri.pvn {w w1 : World} {rb mb : Nat} {pv : Value} {Q : List (Nat × Nat)} {nums : List Nat} {W : World} {pv' lv : Value} {D' : DataW Unit} (c : Rcl w w1 rb mb pv) (h : Ri w w1 rb mb pv Q nums W pv' lv D') {b : Nat} (hb : pv'.ownBlock = some b) : (b < w.heap.size ∧ pv.ownBlock = some b) ∨ w1.heap.size ≤ b := by
  rcases h.loc with e | e
  · rw [e] at hb
    exact Or.inl ⟨c.pv b hb, hb⟩
  · exact Or.inr (e b hb)

theorem kf_grown {B : Nat} {W W' : World} {row : Option Nat} (hg : W.grownBy W' row) (hr : ∀ b, row = some b → B ≤ b → ∃ c t z, W.heap[b]? = some (.cells c t z)) : KeepsFrom B W W' :=
  ⟨hg.size, fun k o hk h0 hc => (hg.block k (Array.getElem?_eq_some_iff.1 h0).1 (fun e => by
    obtain ⟨c, t, z, h⟩ := hr k e.symm hk
    rw [h0] at h
    cases h
    simp [Obj.isCells] at hc)).trans h0⟩
theorem kf_trans {B : Nat} {a b c : World} (h : KeepsFrom B a b) (k : KeepsFrom B b c) : KeepsFrom B a c :=
  ⟨Nat.le_trans h.1 k.1, fun i o hi h0 hc => k.2 i o hi (h.2 i o hi h0 hc) hc⟩

/-- One more number. -/
theorem Ri.num {w w1 : World} {rb mb : Nat} {pv : Value} {Q : List (Nat × Nat)} {nums : List Nat} {W w7 : World} {pv' lv lv' : Value} {D' : DataW Unit} {o : Obj} {k : Nat} (c : Rcl w w1 rb mb pv) (h : Ri w w1 rb mb pv Q nums W pv' lv D')
    (hown : w7.ownsRow w1.heap.size 3 1 lv' ((cs nums).length + 1) (vals (cs nums) ++ [.int .i64 (k : Int)])) (hgrow : (W.alloc o).grownBy w7 lv.ownBlock) (hloc : lv'.ownBlock = lv.ownBlock ∨ lv'.ownBlock = some (W.alloc o).heap.size) :
    w7.cell? ⟨w.heap.size + 3, 0, none⟩ = some lv ∧ w7.frozen? ⟨w.heap.size + 3, 0, none⟩ = false ∧ Hid (Ri w w1 rb mb pv Q (nums ++ [k]) (w7.setCell ⟨w.heap.size + 3, 0, none⟩ lv') pv' lv' D' ∧ KeepsFrom w1.heap.size W (w7.setCell ⟨w.heap.size + 3, 0, none⟩ lv')) := by
  have s1 := c.s1
  have hg := (World.grownBy_alloc W o lv.ownBlock).trans hgrow
  have hne : ∀ b, b < w1.heap.size → some b ≠ lv.ownBlock := fun b hb e => by have := (h.own.lt b e.symm).1; omega
  have hlt : ∀ b, b < w1.heap.size → w7.heap[b]? = W.heap[b]? := fun b hb => hg.block b (Nat.lt_of_lt_of_le hb h.sz) (hne b hb)
  have hb3 : w7.heap[w.heap.size + 3]? = some (.cells #[lv] 22) := (hlt _ (by omega)).trans h.lst
  have gs := gb_set w7 ⟨w.heap.size + 3, 0, none⟩ lv'
  have hset : ∀ b, b < w7.heap.size → b ≠ w.heap.size + 3 → (w7.setCell ⟨w.heap.size + 3, 0, none⟩ lv').heap[b]? = w7.heap[b]? := fun b hb hn => gs.block b hb (fun e => hn (Option.some.inj e))
  have hsz : w1.heap.size ≤ w7.heap.size := Nat.le_trans h.sz hg.size
  have hlt2 : ∀ b, b < w1.heap.size → b ≠ w.heap.size + 3 → (w7.setCell ⟨w.heap.size + 3, 0, none⟩ lv').heap[b]? = W.heap[b]? := fun b hb hn => (hset b (by omega) hn).trans (hlt b hb)
  refine ⟨cell_of_cells hb3 rfl, by simp [World.frozen?, hb3], ⟨⟨h.rol.of (hlt2 _ (by have := c.rb; omega) (by have := c.rb; omega)) (hlt2 _ (by have := c.mb; omega) (by have := c.mb; omega)) ?_, fun b h1 h2 => (hlt2 b (by omega) (by omega)).trans (h.old b h1 h2), ?_, ?_, ?_, by rw [World.size_setCell]; exact hsz, h.loc, fun b hb hb2 => ?_⟩, kf_trans (kf_grown hg (fun b e _ => ?_)) (kf_grown gs (fun b e hb => ?_))⟩⟩
  · refine owns_kept (owns_kept h.rol.own hg (fun b hb e => h.ap b e hb)) gs (fun b hb e => ?_)
    have e' := Option.some.inj e
    dsimp only at e'
    rcases h.pvn c hb with h1 | h1 <;> omega
  · rw [blk_setCell hb3]; rfl
  · have e : (cs (nums ++ [k])).length = (cs nums).length + 1 := by rw [cs_snoc]; simp
    rw [e, cs_snoc, ← vals_snoc]
    exact ownsRow_setCell_below hown (by show w.heap.size + 3 < _; omega) _
  · exact (h.fr.grown hg (fun b e hb => by have := (h.own.lt b e).1; omega)).setCell (fun hb => by dsimp only at hb; omega) _
  · rcases hloc with e | e
    · exact h.ap b (by rw [← e]; exact hb) hb2
    · rw [e, Option.some.injEq, World.size_alloc] at hb
      have := (h.rol.own.lt b hb2).2
      omega
  · obtain ⟨cc, z, hc⟩ := owns_blk h.own e
    exact ⟨_, _, _, hc⟩
  · have e' := Option.some.inj e
    dsimp only at e'
    omega

/-- One pair more: the map, then the pairs. -/
theorem Ri.map {w w1 : World} {rb mb : Nat} {pv : Value} {Q : List (Nat × Nat)} {nums : List Nat} {W w2 : World} {pv' lv : Value} {D' : DataW Unit} (c : Rcl w w1 rb mb pv) (h : Ri w w1 rb mb pv Q nums W pv' lv D') (hg : W.grownBy w2 (some mb)) :
    w2.heap[rb]? = W.heap[rb]? ∧ w2.ownsRow 0 79 2 pv' Q.length (pcells Q) ∧ (∀ b, w.heap.size ≤ b → b < W.heap.size → w2.heap[b]? = W.heap[b]?) ∧ w2.ownsRow w1.heap.size 3 1 lv (cs nums).length (vals (cs nums)) ∧ Fr (rex rb mb pv) w w2 := by
  have ha := h.rol.apart
  have s1 := c.s1
  refine ⟨hg.block rb ha.2.2.1 (fun e => ha.1 (Option.some.inj e)), owns_kept h.rol.own hg (fun b hb e => (ha.2.1 b hb).2 (Option.some.inj e).symm), fun b h1 h2 => hg.block b h2 (fun e => by have := Option.some.inj e; have := c.mb; omega), owns_kept h.own hg (fun b hb e => ?_), h.fr.grown hg (fun b e _ => Or.inr (Or.inl (Option.some.inj e).symm))⟩
  have h1 := (h.own.lt b hb).1
  have := Option.some.inj e
  have := c.mb
  omega

theorem Ri.add {w w1 : World} {rb mb : Nat} {pv : Value} {Q : List (Nat × Nat)} {nums : List Nat} {W w2 w4 : World} {pv' lv v6 : Value} {D' D2 : DataW Unit} {o : Obj} {p : Nat × Nat} (c : Rcl w w1 rb mb pv) (h : Ri w w1 rb mb pv Q nums W pv' lv D') (hg : W.grownBy w2 (some mb))
    (hm : w2.ownsMap Tryd.prog 79 (plainElem Tryd.prog 3) mb (Q.length + 1) D2) (hn : Nmp (Q ++ [p]) D2)
    (hown : w4.ownsRow 0 79 2 v6 (Q.length + 1) (pcells Q ++ [.int .i64 ((p.1 : Nat) : Int), .int .i64 ((p.2 : Nat) : Int)])) (hgrow : (w2.alloc o).grownBy w4 pv'.ownBlock) (hloc : v6.ownBlock = pv'.ownBlock ∨ v6.ownBlock = some (w2.alloc o).heap.size) :
    w4.heap[rb]? = some (.cells #[.map (some mb), pv'] 117) ∧ Hid (Ri w w1 rb mb pv (Q ++ [p]) nums (w4.setCell ⟨rb, 1, none⟩ v6) v6 lv D2 ∧ KeepsFrom w1.heap.size W (w4.setCell ⟨rb, 1, none⟩ v6)) := by
  have s1 := c.s1
  have ha := h.rol.apart
  obtain ⟨hm1, hm2, hm3, hm4, hm5⟩ := h.map c hg
  have hg4 := (World.grownBy_alloc w2 o pv'.ownBlock).trans hgrow
  have hne : ∀ b, pv'.ownBlock = some b → b ≠ rb ∧ b ≠ mb := ha.2.1
  have hs2 : W.heap.size ≤ w2.heap.size := hg.size
  have hrb4 : w4.heap[rb]? = some (.cells #[.map (some mb), pv'] 117) := (hg4.block rb (Nat.lt_of_lt_of_le ha.2.2.1 hs2) (fun e => (hne rb e.symm).1 rfl)).trans (hm1.trans h.rol.blk)
  have gs := gb_set w4 ⟨rb, 1, none⟩ v6
  have hset : ∀ b, b < w4.heap.size → b ≠ rb → (w4.setCell ⟨rb, 1, none⟩ v6).heap[b]? = w4.heap[b]? := fun b hb hn => gs.block b hb (fun e => hn (Option.some.inj e))
  have hs4 : W.heap.size ≤ w4.heap.size := Nat.le_trans hs2 hg4.size
  have hmid : ∀ b, w.heap.size ≤ b → b < w1.heap.size → (w4.setCell ⟨rb, 1, none⟩ v6).heap[b]? = W.heap[b]? := fun b h1 h2 => by
    have hW := h.sz
    rw [hset b (by omega) (by have := c.rb; omega), hg4.block b (by omega) (fun e => by rcases h.pvn c e.symm with h3 | h3 <;> omega)]
    exact hm3 b h1 (by omega)
  refine ⟨hrb4, ⟨⟨⟨?_, ?_, hn, ?_⟩, fun b h1 h2 => (hmid b h1 (by omega)).trans (h.old b h1 h2), (hmid _ (by omega) (by omega)).trans h.lst, ?_, ?_, by rw [World.size_setCell]; exact Nat.le_trans h.sz hs4, ?_, fun b hb hb2 => ?_⟩, kf_trans (kf_trans (kf_grown hg (fun b e hb => ?_)) (kf_grown hg4 (fun b e _ => ?_))) (kf_grown gs (fun b e hb => ?_))⟩⟩
  · rw [blk_setCell hrb4]; rfl
  · have e : (Q ++ [p]).length = Q.length + 1 := by simp
    rw [e]
    refine map_of_block hm ?_
    have hmb : mb < w2.heap.size := Nat.lt_of_lt_of_le ha.2.2.2 hs2
    rw [hset mb (Nat.lt_of_lt_of_le hmb hg4.size) (Ne.symm ha.1)]
    exact hg4.block mb hmb (fun e => (hne mb e.symm).2 rfl)
  · have e : (Q ++ [p]).length = Q.length + 1 := by simp
    rw [e, ← pcells_snoc]
    refine owns_kept hown gs (fun b hb e2 => ?_)
    have e3 := Option.some.inj e2
    dsimp only at e3
    obtain ⟨cc, z, hc⟩ := owns_blk hown hb
    rw [← e3, hrb4] at hc
    cases hc
  · refine owns_kept (owns_kept hm4 hg4 (fun b hb e => h.ap b hb e)) gs (fun b hb e => ?_)
    have e3 := Option.some.inj e
    dsimp only at e3
    have h1 := (h.own.lt b hb).1
    have := c.rb
    omega
  · refine (hm5.grown hg4 (fun b e hb => ?_)).setCell (fun _ => Or.inl rfl) _
    rcases h.pvn c e with h3 | h3
    · exact Or.inr (Or.inr h3.2)
    · omega
  · rcases hloc with e | e
    · rw [e]; exact h.loc
    · refine Or.inr (fun b hb => ?_)
      rw [e, Option.some.injEq, World.size_alloc] at hb
      have := h.sz
      omega
  · rcases hloc with e | e
    · exact h.ap b hb (by rw [← e]; exact hb2)
    · rw [e, Option.some.injEq, World.size_alloc] at hb2
      have := (h.own.lt b hb).2
      omega
  · have := Option.some.inj e
    have := c.mb
    omega
  · obtain ⟨cc, z, hc⟩ := owns_blk hm2 e
    exact ⟨_, _, _, hc⟩
  · have e' := Option.some.inj e
    dsimp only at e'
    have := c.rb
    omega

/-- The map tells a pair's number. -/
theorem Rol.look {w : World} {rb mb : Nat} {pv : Value} {P : List (Nat × Nat)} {D : DataW Unit} (h : Rol w rb mb pv P D) {p : Nat × Nat} (hp : Sml p) :
    ∃ (c : Int) (z : Bool), (Instr.lookup 115 (.map (some mb)) (.agg #[.int .i64 ((p.1 : Nat) : Int), .int .i64 ((p.2 : Nat) : Int)]) true).run Tryd.prog w = .ok (.tuple #[.int .i64 c, .bool z]) w ∧ Hid ((z = true ↔ p ∈ P) ∧ (p ∈ P → c = ((ix p P : Nat) : Int))) := by
  obtain ⟨kl, hkl⟩ := prv_key hp
  have hz3 : (zeroValue 3).run Tryd.prog w = .ok (.int .i64 0) w := by kernel_rfl
  obtain ⟨v, ps, hrun, hv⟩ := h.map.look_ok Tryd.keyed Tryd.underlying115 hz3 (plainElem_int Tryd.underlying3 (by decide)) hkl
  obtain ⟨c, rfl, hc, _⟩ := plainElem_int_inv Tryd.underlying3 hv
  obtain ⟨h1, h2⟩ := h.nmp p kl hp hkl
  refine ⟨c, Maps.has D kl, hrun, h1, fun hm => ?_⟩
  have h3 := h2 hm (.lit (.int .i64 0))
  have h4 := congrArg Prod.fst hc
  simp only at h4
  rw [h3] at h4
  simp only [DataW.lit.injEq, Lit.int.injEq, true_and] at h4
  exact h4.symm

/-- A new pair goes into the map. -/
theorem Rol.store {w : World} {rb mb : Nat} {pv : Value} {P : List (Nat × Nat)} {D : DataW Unit} (h : Rol w rb mb pv P D) {p : Nat × Nat} (hp : Sml p) (hn : p ∉ P) (hl : P.length ≤ 2048) :
    ∃ w2 D2, (Instr.mapUpdate 115 (.map (some mb)) (.agg #[.int .i64 ((p.1 : Nat) : Int), .int .i64 ((p.2 : Nat) : Int)]) (.int .i64 ((P.length : Nat) : Int))).run Tryd.prog w = .ok () w2 ∧ w.grownBy w2 (some mb) ∧ w2.ownsMap Tryd.prog 79 (plainElem Tryd.prog 3) mb (P.length + 1) D2 ∧ Nmp (P ++ [p]) D2 := by
  obtain ⟨kl, hkl⟩ := prv_key hp
  have hwf : (Lit.int .i64 ((P.length : Nat) : Int)).wf = true := WalkArith.wf_i64 (by omega)
  obtain ⟨w3, hrun, hown, hg⟩ := h.map.update Tryd.keyed Tryd.underlying115 (by unfold maxLen; omega) hkl (plainElem_int Tryd.underlying3 hwf)
  exact ⟨w3, _, hrun, hg, hown, nmp_put h.nmp h.map.isMap hp hn hkl⟩

theorem nAdds_app {α : Type} [DecidableEq α] (l xs ys : List α) : nAdds l (xs ++ ys) = nAdds (nAdds l xs) ys := by
  unfold nAdds
  rw [List.foldl_append]

end Go.Proofs.YtdncjikmknkkpaaDoor

namespace Go.Proofs.YtdncjikmknkkpaaDoor
open Go.RowKit Go.Shelf Go.Maps

attribute [local go_sem] Oper.semAt_some

theorem Tryd.info79 : (Tryd.prog.info? 79).map (fun i => (i.zero, i.size, i.bytes)) = some (some (.agg #[.int .i64 0, .int .i64 0]), 2, 16) := by kernel_rfl

/-- The numbers of some pairs. -/
def nms (Q : List (Nat × Nat)) (pre : List Pr) : List Nat := pre.map fun y => ix (prn y) Q
theorem nms_snoc (Q : List (Nat × Nat)) (pre : List Pr) (x : Pr) : nms Q (pre ++ [x]) = nms Q pre ++ [ix (prn x) Q] := by simp [nms]
theorem nms_pre {Q R : List (Nat × Nat)} {pre : List Pr} (h : Q <+: R) (hm : ∀ y ∈ pre, prn y ∈ Q) : nms R pre = nms Q pre := List.map_congr_left (fun y hy => ix_pre (hm y hy) h)
theorem nms_len (Q : List (Nat × Nat)) (pre : List Pr) : (cs (nms Q pre)).length = pre.length := by rw [cs_len]; simp [nms]
def qp (P : List (Nat × Nat)) (pre : List Pr) : List (Nat × Nat) := nAdds P (pre.map prn)
theorem qp_snoc (P : List (Nat × Nat)) (pre : List Pr) (x : Pr) : qp P (pre ++ [x]) = nAdd (qp P pre) (prn x) := by
  unfold qp
  rw [List.map_append]
  exact nAdds_snoc _ _ _
theorem qp_mem (P : List (Nat × Nat)) (pre : List Pr) : ∀ y ∈ pre, prn y ∈ qp P pre := fun y hy => (mem_nAdds _ _).2 (Or.inr (List.mem_map.2 ⟨y, hy, rfl⟩))
theorem qp_pre {P : List (Nat × Nat)} {pre all : List Pr} (h : pre <+: all) : qp P pre <+: qp P all := by
  obtain ⟨r, rfl⟩ := h
  unfold qp
  rw [List.map_append, nAdds_app]
  exact nAdds_pre _ _

theorem rl_world (w : World) (rb : Nat) : ∃ W, (((w.alloc (.cells #[.pointer (some ⟨rb, 0, none⟩)] 131)).alloc (.cells #[.slice none 0 0] 22)).alloc (.cells #[.int .i64 0] 29)).alloc (.cells #[.slice none 0 0] 22) = W ∧ Below w.heap.size w W ∧ W.heap.size = w.heap.size + 4 ∧
    W.heap[w.heap.size]? = some (.cells #[.pointer (some ⟨rb, 0, none⟩)] 131) ∧ W.heap[w.heap.size + 1]? = some (.cells #[.slice none 0 0] 22) ∧ W.heap[w.heap.size + 1 + 1]? = some (.cells #[.int .i64 0] 29) ∧ W.heap[w.heap.size + 1 + 1 + 1]? = some (.cells #[.slice none 0 0] 22) := by
  have b1 := box_below w (.cells #[.pointer (some ⟨rb, 0, none⟩)] 131)
  have n1 : (w.alloc (.cells #[.pointer (some ⟨rb, 0, none⟩)] 131)).heap[w.heap.size]? = _ := Go.Deep.blk_alloc_new _ _
  have s1 : (w.alloc (.cells #[.pointer (some ⟨rb, 0, none⟩)] 131)).heap.size = w.heap.size + 1 := by simp
  generalize w.alloc (.cells #[.pointer (some ⟨rb, 0, none⟩)] 131) = W1 at *
  have b2 := box_below W1 (.cells #[.slice none 0 0] 22)
  have n2 : (W1.alloc (.cells #[.slice none 0 0] 22)).heap[W1.heap.size]? = _ := Go.Deep.blk_alloc_new _ _
  have s2 : (W1.alloc (.cells #[.slice none 0 0] 22)).heap.size = w.heap.size + 1 + 1 := by simp [s1]
  generalize W1.alloc (.cells #[.slice none 0 0] 22) = W2 at *
  have b3 := box_below W2 (.cells #[.int .i64 0] 29)
  have n3 : (W2.alloc (.cells #[.int .i64 0] 29)).heap[W2.heap.size]? = _ := Go.Deep.blk_alloc_new _ _
  have s3 : (W2.alloc (.cells #[.int .i64 0] 29)).heap.size = w.heap.size + 1 + 1 + 1 := by simp [s2]
  generalize W2.alloc (.cells #[.int .i64 0] 29) = W3 at *
  have b4 := box_below W3 (.cells #[.slice none 0 0] 22)
  have n4 : (W3.alloc (.cells #[.slice none 0 0] 22)).heap[W3.heap.size]? = _ := Go.Deep.blk_alloc_new _ _
  have s4 : (W3.alloc (.cells #[.slice none 0 0] 22)).heap.size = w.heap.size + 4 := by simp [s3]
  generalize W3.alloc (.cells #[.slice none 0 0] 22) = W4 at *
  rw [s1] at n2
  rw [s2] at n3
  rw [s3] at n4
  refine ⟨W4, rfl, ((b1.trans (b2.mono (by omega))).trans (b3.mono (by omega))).trans (b4.mono (by omega)), s4, ?_, ?_, ?_, n4⟩
  · rw [b4.block _ (by omega), b3.block _ (by omega), b2.block _ (by omega)]; exact n1
  · rw [b4.block _ (by omega), b3.block _ (by omega)]; exact n2
  · rw [b4.block _ (by omega)]; exact n3

/-- An own row of pairs, as a slice. -/
theorem owns_pr {w : World} {base : Nat} {v : Value} {l : List (Nat × Nat)} (h : w.ownsRow base 79 2 v l.length (pcells l)) :
    ∃ a c, v = .slice a l.length c ∧ Sp w a l.length (nAt l) ∧ (∀ p, a = some p → base ≤ p.block ∧ p.block < w.heap.size ∧ v.ownBlock = some p.block) := by
  rcases h.2 with ⟨rfl, h0⟩ | ⟨g, cap, cur, rfl, hb, hg, _⟩
  · exact ⟨none, 0, by rw [h0], ⟨0, fun hh => by omega, fun i hi => by omega⟩, fun p hp => by cases hp⟩
  · refine ⟨some ⟨g, 0, none⟩, cap, rfl, ⟨g, fun _ => rfl, fun i hi => ?_⟩, fun p hp => ?_⟩
    · obtain ⟨h1, h2⟩ := pcells_at l i hi
      have e1 := h.cells (g := g) rfl _ _ h1
      have e2 := h.cells (g := g) rfl _ _ h2
      rw [Addr.add_mid, Nat.zero_add] at e1 e2
      exact ⟨e1, e2⟩
    · rw [Option.some.injEq] at hp
      subst hp
      exact ⟨hb, (Array.getElem?_eq_some_iff.1 hg).1, by simp [Value.ownBlock]⟩

theorem owns_row' {w : World} {base n : Nat} {v : Value} {xs : List Value} (h : w.ownsRow base 3 1 v n xs) : ∃ a c, v = .slice a n c ∧ True := by
  rcases h.2 with ⟨rfl, h0⟩ | ⟨g, cap, cur, rfl, hb, hg, _⟩
  · exact ⟨none, 0, by rw [h0], trivial⟩
  · exact ⟨_, _, rfl, trivial⟩

/-- At the end: the two results are stored, the loop's deferred calls are let go. -/
theorem Ri.fin {w w1 : World} {rb mb : Nat} {pv : Value} {Q : List (Nat × Nat)} {nums : List Nat} {W X : World} {pv' lv : Value} {D' : DataW Unit} (c : Rcl w w1 rb mb pv) (h : Ri w w1 rb mb pv Q nums W pv' lv D') {Dd : Nat} (hD : w1.heap.size ≤ Dd) {ob : Obj} (hK : W.heap[Dd]? = some ob) (hob : ob.isCells = false) (v u1 u2 : Value)
    (hX : (W.setCell ⟨w.heap.size + 1, 0, none⟩ lv).setCell ⟨w.heap.size + 1 + 1, 0, none⟩ v = X) (y1 : W.cell? ⟨w.heap.size + 1, 0, none⟩ = some u1) (y2 : W.cell? ⟨w.heap.size + 1 + 1, 0, none⟩ = some u2) :
    X.heap[Dd]? = some ob ∧ ∀ W', X.grownBy W' (some Dd) → W'.cell? ⟨w.heap.size + 1, 0, none⟩ = some lv ∧ W'.cell? ⟨w.heap.size + 1 + 1, 0, none⟩ = some v ∧ Rol W' rb mb pv' Q D' ∧ W'.ownsRow w.heap.size 3 1 lv (cs nums).length (vals (cs nums)) ∧ Fr (rex rb mb pv) w W' := by
  have s1 := c.s1
  have c1 := c.rb
  have c2 := c.mb
  have hsz := h.sz
  have g1 := gb_set W ⟨w.heap.size + 1, 0, none⟩ lv
  have g2 := gb_set (W.setCell ⟨w.heap.size + 1, 0, none⟩ lv) ⟨w.heap.size + 1 + 1, 0, none⟩ v
  have k1 : ((W.setCell ⟨w.heap.size + 1, 0, none⟩ lv).setCell ⟨w.heap.size + 1 + 1, 0, none⟩ v).cell? ⟨w.heap.size + 1, 0, none⟩ = some lv := (World.cell?_setCell_other _ _ _ _ (by intro hh; simp only [Addr.mk.injEq] at hh; omega)).trans (World.cell?_setCell_same _ _ _ y1)
  have k2 : ((W.setCell ⟨w.heap.size + 1, 0, none⟩ lv).setCell ⟨w.heap.size + 1 + 1, 0, none⟩ v).cell? ⟨w.heap.size + 1 + 1, 0, none⟩ = some v := World.cell?_setCell_same _ _ _ ((World.cell?_setCell_other _ _ _ _ (by intro hh; simp only [Addr.mk.injEq] at hh; omega)).trans y2)
  have hs1 : (W.setCell ⟨w.heap.size + 1, 0, none⟩ lv).heap.size = W.heap.size := World.size_setCell _ _ _
  have hs2 : ((W.setCell ⟨w.heap.size + 1, 0, none⟩ lv).setCell ⟨w.heap.size + 1 + 1, 0, none⟩ v).heap.size = W.heap.size := by rw [World.size_setCell, World.size_setCell]
  have hbl : ∀ b, b < W.heap.size → b ≠ w.heap.size + 1 → b ≠ w.heap.size + 1 + 1 → ((W.setCell ⟨w.heap.size + 1, 0, none⟩ lv).setCell ⟨w.heap.size + 1 + 1, 0, none⟩ v).heap[b]? = W.heap[b]? := fun b hb h1 h2 =>
    (g2.block b (by rw [hs1]; exact hb) (fun e => h2 (Option.some.inj e))).trans (g1.block b hb (fun e => h1 (Option.some.inj e)))
  have hpv : ∀ b, pv'.ownBlock = some b → b ≠ w.heap.size + 1 ∧ b ≠ w.heap.size + 1 + 1 := fun b hb => by rcases h.pvn c hb with h3 | h3 <;> omega
  have hlv : ∀ b, lv.ownBlock = some b → b ≠ w.heap.size + 1 ∧ b ≠ w.heap.size + 1 + 1 := fun b hb => by have := (h.own.lt b hb).1; omega
  have o1 := owns_kept (owns_kept h.rol.own g1 (fun b hb e => (hpv b hb).1 (Option.some.inj e).symm)) g2 (fun b hb e => (hpv b hb).2 (Option.some.inj e).symm)
  have o2 := owns_kept (owns_kept h.own g1 (fun b hb e => (hlv b hb).1 (Option.some.inj e).symm)) g2 (fun b hb e => (hlv b hb).2 (Option.some.inj e).symm)
  have f1 := (h.fr.setCell (p := ⟨w.heap.size + 1, 0, none⟩) (fun hb => by dsimp only at hb; omega) lv).setCell (p := ⟨w.heap.size + 1 + 1, 0, none⟩) (fun hb => by dsimp only at hb; omega) v
  have hKlt := (Array.getElem?_eq_some_iff.1 hK).1
  rw [hX] at k1 k2 hs2 hbl o1 o2 f1
  have hKX : X.heap[Dd]? = some ob := (hbl Dd hKlt (by omega) (by omega)).trans hK
  refine ⟨hKX, fun W' h3 => ?_⟩
  have hr : ∀ r, some Dd = some r → ∃ o : Obj, X.heap[r]? = some o ∧ o.isCells = false := fun r e => by cases e; exact ⟨_, hKX, hob⟩
  have hcl : ∀ {b : Nat} {cc : Array Value} {e : TypeId} {z : Nat × Nat}, X.heap[b]? = some (.cells cc e z) → some Dd ≠ some b := fun {b cc e z} hb e2 => by
    cases e2
    rw [hKX] at hb
    cases hb
    simp [Obj.isCells] at hob
  refine ⟨cell_kept k1 h3 hr, cell_kept k2 h3 hr, h.rol.of ?_ ?_ (owns_kept o1 h3 (fun b hb => ?_)), owns_mono (owns_kept o2 h3 (fun b hb => ?_)) (by omega), f1.grown h3 (fun b e hb => by cases e; omega)⟩
  · rw [h3.block rb (by omega) (fun e => by have := Option.some.inj e; omega)]
    exact hbl rb (by omega) (by omega) (by omega)
  · rw [h3.block mb (by omega) (fun e => by have := Option.some.inj e; omega)]
    exact hbl mb (by omega) (by omega) (by omega)
  · obtain ⟨cc, z, hc⟩ := owns_blk o1 hb
    exact hcl hc
  · obtain ⟨cc, z, hc⟩ := owns_blk o2 hb
    exact hcl hc

/-- What the roll's list answers. -/
def RlIs (rb mb : Nat) (pv : Value) (P : List (Nat × Nat)) (all : List Pr) (w : World) (e : Ending) (w' : World) : Prop :=
  ((qp P all).length ≤ 2048 ∧ ∃ lv pv' D', e = .returned (.tuple #[lv, .int .i64 0]) ∧ Rol w' rb mb pv' (qp P all) D' ∧ w'.ownsRow w.heap.size 3 1 lv (cs (nms (qp P all) all)).length (vals (cs (nms (qp P all) all))) ∧ Fr (rex rb mb pv) w w' ∧ (pv'.ownBlock = pv.ownBlock ∨ ∀ b, pv'.ownBlock = some b → w.heap.size ≤ b) ∧ ∀ b, lv.ownBlock = some b → pv'.ownBlock ≠ some b)
  ∨ (2048 < (qp P all).length ∧ e = .returned (.tuple #[.slice none 0 0, .int .i64 2]) ∧ Fr (rex rb mb pv) w w')

end Go.Proofs.YtdncjikmknkkpaaDoor
