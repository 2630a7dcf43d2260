/- The roll's list: what it has in memory while pairs come. The roll's list: its contract. -/
import Derived.Test.YtdncjikmknkkpaaDoorOnc
import Derived.Test.YtdncjikmknkkpaaDoorPrd
import Derived.Maps.OwnIn
namespace Go.Proofs.YtdncjikmknkkpaaDoor
open Go.RowKit Go.Shelf Go.Maps

theorem map_of_block {w w' : World} {k : TypeId} {R : Value → Option (DataW Unit × List MemPlace)} {b n : Nat} {D : DataW Unit} (h : w.ownsMap Tryd.prog k R b n D) (e : w'.heap[b]? = w.heap[b]?) : w'.ownsMap Tryd.prog k R b n D := by
  obtain ⟨es, clock, hb, r⟩ := h
  exact ⟨es, clock, e.trans hb, r⟩
theorem map_lt {w : World} {k : TypeId} {R : Value → Option (DataW Unit × List MemPlace)} {b n : Nat} {D : DataW Unit} (h : w.ownsMap Tryd.prog k R b n D) : ∃ es c, w.heap[b]? = some (.map es c) := by
  obtain ⟨es, clock, hb, r⟩ := h
  exact ⟨es, clock, hb⟩
theorem owns_blk {w : World} {base : Nat} {e : TypeId} {size : Nat} {v : Value} {n : Nat} {xs : List Value} (h : w.ownsRow base e size v n xs) {b : Nat} (hb : v.ownBlock = some b) : ∃ c z, w.heap[b]? = some (.cells c e z) := by
  rcases h.2 with ⟨rfl, h0⟩ | ⟨g, cap, cur, rfl, hb2, hg, _⟩
  · simp [Value.ownBlock] at hb
  · simp [Value.ownBlock] at hb
    subst hb
    exact ⟨_, _, hg⟩
theorem gb_set (w : World) (a : Addr) (v : Value) : w.grownBy (w.setCell a v) (some a.block) :=
  ⟨rfl, rfl, rfl, by simp, fun k _ hne => Below.heap_setCell _ _ _ _ (fun e => hne (by rw [e]))⟩
theorem owns_kept {w w' : World} {base : Nat} {e : TypeId} {size : Nat} {v : Value} {n : Nat} {xs : List Value} {row : Option Nat} (h : w.ownsRow base e size v n xs) (hg : w.grownBy w' row) (hr : ∀ b, v.ownBlock = some b → row ≠ some b) : w'.ownsRow base e size v n xs :=
  h.kept hg (by
    cases hv : v.ownBlock with
    | none => exact Or.inl rfl
    | some b => exact Or.inr (fun ee => hr b hv ee.symm))

/-- The roll's blocks are apart. -/
theorem Rol.apart {w : World} {rb mb : Nat} {pv : Value} {P : List (Nat × Nat)} {D : DataW Unit} (h : Rol w rb mb pv P D) : rb ≠ mb ∧ (∀ b, pv.ownBlock = some b → b ≠ rb ∧ b ≠ mb) ∧ rb < w.heap.size ∧ mb < w.heap.size := by
  obtain ⟨es, c, hm⟩ := map_lt h.map
  have hr := h.blk
  refine ⟨fun e => ?_, fun b hb => ?_, (Array.getElem?_eq_some_iff.1 hr).1, (Array.getElem?_eq_some_iff.1 hm).1⟩
  · rw [e, hm] at hr
    cases hr
  · obtain ⟨cc, z, hc⟩ := owns_blk h.own hb
    refine ⟨fun e => ?_, fun e => ?_⟩
    · rw [e, hr] at hc
      cases hc
    · rw [e, hm] at hc
      cases hc

theorem Rol.of {w w' : World} {rb mb : Nat} {pv : Value} {P : List (Nat × Nat)} {D : DataW Unit} (h : Rol w rb mb pv P D) (h1 : w'.heap[rb]? = w.heap[rb]?) (h2 : w'.heap[mb]? = w.heap[mb]?) (h3 : w'.ownsRow 0 79 2 pv P.length (pcells P)) : Rol w' rb mb pv P D :=
  ⟨h1.trans h.blk, map_of_block h.map h2, h.nmp, h3⟩
theorem Rol.below {w w' : World} {rb mb : Nat} {pv : Value} {P : List (Nat × Nat)} {D : DataW Unit} (h : Rol w rb mb pv P D) (hb : Below w.heap.size w w') : Rol w' rb mb pv P D :=
  h.of (hb.block _ h.apart.2.2.1) (hb.block _ h.apart.2.2.2) (owns_below h.own hb)

/-- While pairs come: w is the world of the call, w1 that of the loop. -/
structure Ri (w w1 : World) (rb mb : Nat) (pv : Value) (Q : List (Nat × Nat)) (nums : List Nat) (W : World) (pv' lv : Value) (D' : DataW Unit) : Prop where
  rol : Rol W rb mb pv' Q D'
  old : ∀ b, w.heap.size ≤ b → b < w.heap.size + 3 → W.heap[b]? = w1.heap[b]?
  lst : W.heap[w.heap.size + 3]? = some (.cells #[lv] 22)
  own : W.ownsRow w1.heap.size 3 1 lv (cs nums).length (vals (cs nums))
  fr : Fr (rex rb mb pv) w W
  sz : w1.heap.size ≤ W.heap.size
  loc : pv'.ownBlock = pv.ownBlock ∨ ∀ b, pv'.ownBlock = some b → w1.heap.size ≤ b
  ap : ∀ b, lv.ownBlock = some b → pv'.ownBlock ≠ some b

/-- What is so at the call. -/
structure Rcl (w w1 : World) (rb mb : Nat) (pv : Value) : Prop where
  s1 : w1.heap.size = w.heap.size + 4
  rb : rb < w.heap.size
  mb : mb < w.heap.size
  pv : ∀ b, pv.ownBlock = some b → b < w.heap.size

theorem Ri.pvn {w w1 : World} {rb mb : Nat} {pv : Value} {Q : List (Nat × Nat)} {nums : List Nat} {W : World} {pv' lv : Value} {D' : DataW Unit} (c : Rcl w w1 rb mb pv) (h : Ri w w1 rb mb pv Q nums W pv' lv D') {b : Nat} (hb : pv'.ownBlock = some b) : (b < w.heap.size ∧ pv.ownBlock = some b) ∨ w1.heap.size ≤ b := by
  rcases h.loc with e | e
  · rw [e] at hb
    exact Or.inl ⟨c.pv b hb, hb⟩
  · exact Or.inr (e b hb)

/-- Book-keeping, and new blocks: nothing of it is touched. -/
theorem Ri.keep {w w1 : World} {rb mb : Nat} {pv : Value} {Q : List (Nat × Nat)} {nums : List Nat} {W W' : World} {pv' lv : Value} {D' : DataW Unit} {row : Option Nat} (c : Rcl w w1 rb mb pv) (h : Ri w w1 rb mb pv Q nums W pv' lv D') (hg : W.grownBy W' row)
    (hr : ∀ r, row = some r → w1.heap.size ≤ r ∧ ∃ o : Obj, W.heap[r]? = some o ∧ o.isCells = false) : Ri w w1 rb mb pv Q nums W' pv' lv D' := by
  have s1 := c.s1
  have hne : ∀ k, k < w1.heap.size → some k ≠ row := fun k hk e => by have := (hr k e.symm).1; omega
  have hlt : ∀ k, k < w1.heap.size → W'.heap[k]? = W.heap[k]? := fun k hk => hg.block k (Nat.lt_of_lt_of_le hk h.sz) (hne k hk)
  have hcl : ∀ {b : Nat} {cc : Array Value} {e : TypeId} {z : Nat × Nat}, W.heap[b]? = some (.cells cc e z) → row ≠ some b := fun {b cc e z} hb e2 => by
    obtain ⟨_, o, ho, hc⟩ := hr b e2
    rw [hb] at ho
    cases ho
    simp [Obj.isCells] at hc
  have hfr := h.fr
  refine ⟨h.rol.of (hlt _ (by have := c.rb; omega)) (hlt _ (by have := c.mb; omega)) (owns_kept h.rol.own hg (fun b hb => ?_)), fun b h1 h2 => (hlt b (by omega)).trans (h.old b h1 h2), (hlt _ (by omega)).trans h.lst, owns_kept h.own hg (fun b hb => ?_), ?_, Nat.le_trans h.sz hg.size, h.loc, h.ap⟩
  · obtain ⟨cc, z, hc⟩ := owns_blk h.rol.own hb
    exact hcl hc
  · obtain ⟨cc, z, hc⟩ := owns_blk h.own hb
    exact hcl hc
  · exact hfr.grown hg (fun b e hb => by have := (hr b e).1; omega)

theorem kf_grown {B : Nat} {W W' : World} {row : Option Nat} (hg : W.grownBy W' row) (hr : ∀ b, row = some b → B ≤ b → ∃ c t z, W.heap[b]? = some (.cells c t z)) : KeepsFrom B W W' :=
  ⟨hg.size, fun k o hk h0 hc => (hg.block k (Array.getElem?_eq_some_iff.1 h0).1 (fun e => by
    obtain ⟨c, t, z, h⟩ := hr k e.symm hk
    rw [h0] at h
    cases h
    simp [Obj.isCells] at hc)).trans h0⟩
theorem kf_trans {B : Nat} {a b c : World} (h : KeepsFrom B a b) (k : KeepsFrom B b c) : KeepsFrom B a c :=
  ⟨Nat.le_trans h.1 k.1, fun i o hi h0 hc => k.2 i o hi (h.2 i o hi h0 hc) hc⟩

/-- One more number. -/
theorem Ri.num {w w1 : World} {rb mb : Nat} {pv : Value} {Q : List (Nat × Nat)} {nums : List Nat} {W w7 : World} {pv' lv lv' : Value} {D' : DataW Unit} {o : Obj} {k : Nat} (c : Rcl w w1 rb mb pv) (h : Ri w w1 rb mb pv Q nums W pv' lv D')
    (hown : w7.ownsRow w1.heap.size 3 1 lv' ((cs nums).length + 1) (vals (cs nums) ++ [.int .i64 (k : Int)])) (hgrow : (W.alloc o).grownBy w7 lv.ownBlock) (hloc : lv'.ownBlock = lv.ownBlock ∨ lv'.ownBlock = some (W.alloc o).heap.size) :
    w7.cell? ⟨w.heap.size + 3, 0, none⟩ = some lv ∧ w7.frozen? ⟨w.heap.size + 3, 0, none⟩ = false ∧ Hid (Ri w w1 rb mb pv Q (nums ++ [k]) (w7.setCell ⟨w.heap.size + 3, 0, none⟩ lv') pv' lv' D' ∧ KeepsFrom w1.heap.size W (w7.setCell ⟨w.heap.size + 3, 0, none⟩ lv')) := by
  have s1 := c.s1
  have hg := (World.grownBy_alloc W o lv.ownBlock).trans hgrow
  have hne : ∀ b, b < w1.heap.size → some b ≠ lv.ownBlock := fun b hb e => by have := (h.own.lt b e.symm).1; omega
  have hlt : ∀ b, b < w1.heap.size → w7.heap[b]? = W.heap[b]? := fun b hb => hg.block b (Nat.lt_of_lt_of_le hb h.sz) (hne b hb)
  have hb3 : w7.heap[w.heap.size + 3]? = some (.cells #[lv] 22) := (hlt _ (by omega)).trans h.lst
  have gs := gb_set w7 ⟨w.heap.size + 3, 0, none⟩ lv'
  have hset : ∀ b, b < w7.heap.size → b ≠ w.heap.size + 3 → (w7.setCell ⟨w.heap.size + 3, 0, none⟩ lv').heap[b]? = w7.heap[b]? := fun b hb hn => gs.block b hb (fun e => hn (Option.some.inj e))
  have hsz : w1.heap.size ≤ w7.heap.size := Nat.le_trans h.sz hg.size
  have hlt2 : ∀ b, b < w1.heap.size → b ≠ w.heap.size + 3 → (w7.setCell ⟨w.heap.size + 3, 0, none⟩ lv').heap[b]? = W.heap[b]? := fun b hb hn => (hset b (by omega) hn).trans (hlt b hb)
  refine ⟨cell_of_cells hb3 rfl, by simp [World.frozen?, hb3], ⟨⟨h.rol.of (hlt2 _ (by have := c.rb; omega) (by have := c.rb; omega)) (hlt2 _ (by have := c.mb; omega) (by have := c.mb; omega)) ?_, fun b h1 h2 => (hlt2 b (by omega) (by omega)).trans (h.old b h1 h2), ?_, ?_, ?_, by rw [World.size_setCell]; exact hsz, h.loc, fun b hb hb2 => ?_⟩, kf_trans (kf_grown hg (fun b e _ => ?_)) (kf_grown gs (fun b e hb => ?_))⟩⟩
  · refine owns_kept (owns_kept h.rol.own hg (fun b hb e => h.ap b e hb)) gs (fun b hb e => ?_)
    have e' := Option.some.inj e
    dsimp only at e'
    rcases h.pvn c hb with h1 | h1 <;> omega
  · rw [blk_setCell hb3]; rfl
  · have e : (cs (nums ++ [k])).length = (cs nums).length + 1 := by rw [cs_snoc]; simp
    rw [e, cs_snoc, ← vals_snoc]
    exact ownsRow_setCell_below hown (by show w.heap.size + 3 < _; omega) _
  · exact (h.fr.grown hg (fun b e hb => by have := (h.own.lt b e).1; omega)).setCell (fun hb => by dsimp only at hb; omega) _
  · rcases hloc with e | e
    · exact h.ap b (by rw [← e]; exact hb) hb2
    · rw [e, Option.some.injEq, World.size_alloc] at hb
      have := (h.rol.own.lt b hb2).2
      omega
  · obtain ⟨cc, z, hc⟩ := owns_blk h.own e
    exact ⟨_, _, _, hc⟩
  · have e' := Option.some.inj e
    dsimp only at e'
    omega

/-- One pair more: the map, then the pairs. -/
theorem Ri.map {w w1 : World} {rb mb : Nat} {pv : Value} {Q : List (Nat × Nat)} {nums : List Nat} {W w2 : World} {pv' lv : Value} {D' : DataW Unit} (c : Rcl w w1 rb mb pv) (h : Ri w w1 rb mb pv Q nums W pv' lv D') (hg : W.grownBy w2 (some mb)) :
    w2.heap[rb]? = W.heap[rb]? ∧ w2.ownsRow 0 79 2 pv' Q.length (pcells Q) ∧ (∀ b, w.heap.size ≤ b → b < W.heap.size → w2.heap[b]? = W.heap[b]?) ∧ w2.ownsRow w1.heap.size 3 1 lv (cs nums).length (vals (cs nums)) ∧ Fr (rex rb mb pv) w w2 := by
  have ha := h.rol.apart
  have s1 := c.s1
  refine ⟨hg.block rb ha.2.2.1 (fun e => ha.1 (Option.some.inj e)), owns_kept h.rol.own hg (fun b hb e => (ha.2.1 b hb).2 (Option.some.inj e).symm), fun b h1 h2 => hg.block b h2 (fun e => by have := Option.some.inj e; have := c.mb; omega), owns_kept h.own hg (fun b hb e => ?_), h.fr.grown hg (fun b e _ => Or.inr (Or.inl (Option.some.inj e).symm))⟩
  have h1 := (h.own.lt b hb).1
  have := Option.some.inj e
  have := c.mb
  omega

theorem Ri.add {w w1 : World} {rb mb : Nat} {pv : Value} {Q : List (Nat × Nat)} {nums : List Nat} {W w2 w4 : World} {pv' lv v6 : Value} {D' D2 : DataW Unit} {o : Obj} {p : Nat × Nat} (c : Rcl w w1 rb mb pv) (h : Ri w w1 rb mb pv Q nums W pv' lv D') (hg : W.grownBy w2 (some mb))
    (hm : w2.ownsMap Tryd.prog 79 (plainElem Tryd.prog 3) mb (Q.length + 1) D2) (hn : Nmp (Q ++ [p]) D2)
    (hown : w4.ownsRow 0 79 2 v6 (Q.length + 1) (pcells Q ++ [.int .i64 ((p.1 : Nat) : Int), .int .i64 ((p.2 : Nat) : Int)])) (hgrow : (w2.alloc o).grownBy w4 pv'.ownBlock) (hloc : v6.ownBlock = pv'.ownBlock ∨ v6.ownBlock = some (w2.alloc o).heap.size) :
    w4.heap[rb]? = some (.cells #[.map (some mb), pv'] 117) ∧ Hid (Ri w w1 rb mb pv (Q ++ [p]) nums (w4.setCell ⟨rb, 1, none⟩ v6) v6 lv D2 ∧ KeepsFrom w1.heap.size W (w4.setCell ⟨rb, 1, none⟩ v6)) := by
  have s1 := c.s1
  have ha := h.rol.apart
  obtain ⟨hm1, hm2, hm3, hm4, hm5⟩ := h.map c hg
  have hg4 := (World.grownBy_alloc w2 o pv'.ownBlock).trans hgrow
  have hne : ∀ b, pv'.ownBlock = some b → b ≠ rb ∧ b ≠ mb := ha.2.1
  have hs2 : W.heap.size ≤ w2.heap.size := hg.size
  have hrb4 : w4.heap[rb]? = some (.cells #[.map (some mb), pv'] 117) := (hg4.block rb (Nat.lt_of_lt_of_le ha.2.2.1 hs2) (fun e => (hne rb e.symm).1 rfl)).trans (hm1.trans h.rol.blk)
  have gs := gb_set w4 ⟨rb, 1, none⟩ v6
  have hset : ∀ b, b < w4.heap.size → b ≠ rb → (w4.setCell ⟨rb, 1, none⟩ v6).heap[b]? = w4.heap[b]? := fun b hb hn => gs.block b hb (fun e => hn (Option.some.inj e))
  have hs4 : W.heap.size ≤ w4.heap.size := Nat.le_trans hs2 hg4.size
  have hmid : ∀ b, w.heap.size ≤ b → b < w1.heap.size → (w4.setCell ⟨rb, 1, none⟩ v6).heap[b]? = W.heap[b]? := fun b h1 h2 => by
    have hW := h.sz
    rw [hset b (by omega) (by have := c.rb; omega), hg4.block b (by omega) (fun e => by rcases h.pvn c e.symm with h3 | h3 <;> omega)]
    exact hm3 b h1 (by omega)
  refine ⟨hrb4, ⟨⟨⟨?_, ?_, hn, ?_⟩, fun b h1 h2 => (hmid b h1 (by omega)).trans (h.old b h1 h2), (hmid _ (by omega) (by omega)).trans h.lst, ?_, ?_, by rw [World.size_setCell]; exact Nat.le_trans h.sz hs4, ?_, fun b hb hb2 => ?_⟩, kf_trans (kf_trans (kf_grown hg (fun b e hb => ?_)) (kf_grown hg4 (fun b e _ => ?_))) (kf_grown gs (fun b e hb => ?_))⟩⟩
  · rw [blk_setCell hrb4]; rfl
  · have e : (Q ++ [p]).length = Q.length + 1 := by simp
    rw [e]
    refine map_of_block hm ?_
    have hmb : mb < w2.heap.size := Nat.lt_of_lt_of_le ha.2.2.2 hs2
    rw [hset mb (Nat.lt_of_lt_of_le hmb hg4.size) (Ne.symm ha.1)]
    exact hg4.block mb hmb (fun e => (hne mb e.symm).2 rfl)
  · have e : (Q ++ [p]).length = Q.length + 1 := by simp
    rw [e, ← pcells_snoc]
    refine owns_kept hown gs (fun b hb e2 => ?_)
    have e3 := Option.some.inj e2
    dsimp only at e3
    obtain ⟨cc, z, hc⟩ := owns_blk hown hb
    rw [← e3, hrb4] at hc
    cases hc
  · refine owns_kept (owns_kept hm4 hg4 (fun b hb e => h.ap b hb e)) gs (fun b hb e => ?_)
    have e3 := Option.some.inj e
    dsimp only at e3
    have h1 := (h.own.lt b hb).1
    have := c.rb
    omega
  · refine (hm5.grown hg4 (fun b e hb => ?_)).setCell (fun _ => Or.inl rfl) _
    rcases h.pvn c e with h3 | h3
    · exact Or.inr (Or.inr h3.2)
    · omega
  · rcases hloc with e | e
    · rw [e]; exact h.loc
    · refine Or.inr (fun b hb => ?_)
      rw [e, Option.some.injEq, World.size_alloc] at hb
      have := h.sz
      omega
  · rcases hloc with e | e
    · exact h.ap b hb (by rw [← e]; exact hb2)
    · rw [e, Option.some.injEq, World.size_alloc] at hb2
      have := (h.own.lt b hb).2
      omega
  · have := Option.some.inj e
    have := c.mb
    omega
  · obtain ⟨cc, z, hc⟩ := owns_blk hm2 e
    exact ⟨_, _, _, hc⟩
  · have e' := Option.some.inj e
    dsimp only at e'
    have := c.rb
    omega

/-- The map tells a pair's number. -/
theorem Rol.look {w : World} {rb mb : Nat} {pv : Value} {P : List (Nat × Nat)} {D : DataW Unit} (h : Rol w rb mb pv P D) {p : Nat × Nat} (hp : Sml p) :
    ∃ (c : Int) (z : Bool), (Instr.lookup 115 (.map (some mb)) (.agg #[.int .i64 ((p.1 : Nat) : Int), .int .i64 ((p.2 : Nat) : Int)]) true).run Tryd.prog w = .ok (.tuple #[.int .i64 c, .bool z]) w ∧ Hid ((z = true ↔ p ∈ P) ∧ (p ∈ P → c = ((ix p P : Nat) : Int))) := by
  obtain ⟨kl, hkl⟩ := prv_key hp
  have hz3 : (zeroValue 3).run Tryd.prog w = .ok (.int .i64 0) w := by kernel_rfl
  obtain ⟨v, ps, hrun, hv⟩ := h.map.look_ok Tryd.keyed Tryd.underlying115 hz3 (plainElem_int Tryd.underlying3 (by decide)) hkl
  obtain ⟨c, rfl, hc, _⟩ := plainElem_int_inv Tryd.underlying3 hv
  obtain ⟨h1, h2⟩ := h.nmp p kl hp hkl
  refine ⟨c, Maps.has D kl, hrun, h1, fun hm => ?_⟩
  have h3 := h2 hm (.lit (.int .i64 0))
  have h4 := congrArg Prod.fst hc
  simp only at h4
  rw [h3] at h4
  simp only [DataW.lit.injEq, Lit.int.injEq, true_and] at h4
  exact h4.symm

/-- A new pair goes into the map. -/
theorem Rol.store {w : World} {rb mb : Nat} {pv : Value} {P : List (Nat × Nat)} {D : DataW Unit} (h : Rol w rb mb pv P D) {p : Nat × Nat} (hp : Sml p) (hn : p ∉ P) (hl : P.length ≤ 2048) :
    ∃ w2 D2, (Instr.mapUpdate 115 (.map (some mb)) (.agg #[.int .i64 ((p.1 : Nat) : Int), .int .i64 ((p.2 : Nat) : Int)]) (.int .i64 ((P.length : Nat) : Int))).run Tryd.prog w = .ok () w2 ∧ w.grownBy w2 (some mb) ∧ w2.ownsMap Tryd.prog 79 (plainElem Tryd.prog 3) mb (P.length + 1) D2 ∧ Nmp (P ++ [p]) D2 := by
  obtain ⟨kl, hkl⟩ := prv_key hp
  have hwf : (Lit.int .i64 ((P.length : Nat) : Int)).wf = true := WalkArith.wf_i64 (by omega)
  obtain ⟨w3, hrun, hown, hg⟩ := h.map.update Tryd.keyed Tryd.underlying115 (by unfold maxLen; omega) hkl (plainElem_int Tryd.underlying3 hwf)
  exact ⟨w3, _, hrun, hg, hown, nmp_put h.nmp h.map.isMap hp hn hkl⟩

theorem nAdds_app {α : Type} [DecidableEq α] (l xs ys : List α) : nAdds l (xs ++ ys) = nAdds (nAdds l xs) ys := by
  unfold nAdds
  rw [List.foldl_append]

end Go.Proofs.YtdncjikmknkkpaaDoor

namespace Go.Proofs.YtdncjikmknkkpaaDoor
open Go.RowKit Go.Shelf Go.Maps

attribute [local go_sem] Oper.semAt_some

theorem Tryd.info79 : (Tryd.prog.info? 79).map (fun i => (i.zero, i.size, i.bytes)) = some (some (.agg #[.int .i64 0, .int .i64 0]), 2, 16) := by kernel_rfl

/-- The numbers of some pairs. -/
def nms (Q : List (Nat × Nat)) (pre : List Pr) : List Nat := pre.map fun y => ix (prn y) Q
theorem nms_snoc (Q : List (Nat × Nat)) (pre : List Pr) (x : Pr) : nms Q (pre ++ [x]) = nms Q pre ++ [ix (prn x) Q] := by simp [nms]
theorem nms_pre {Q R : List (Nat × Nat)} {pre : List Pr} (h : Q <+: R) (hm : ∀ y ∈ pre, prn y ∈ Q) : nms R pre = nms Q pre := List.map_congr_left (fun y hy => ix_pre (hm y hy) h)
theorem nms_len (Q : List (Nat × Nat)) (pre : List Pr) : (cs (nms Q pre)).length = pre.length := by rw [cs_len]; simp [nms]
def qp (P : List (Nat × Nat)) (pre : List Pr) : List (Nat × Nat) := nAdds P (pre.map prn)
theorem qp_snoc (P : List (Nat × Nat)) (pre : List Pr) (x : Pr) : qp P (pre ++ [x]) = nAdd (qp P pre) (prn x) := by
  unfold qp
  rw [List.map_append]
  exact nAdds_snoc _ _ _
theorem qp_mem (P : List (Nat × Nat)) (pre : List Pr) : ∀ y ∈ pre, prn y ∈ qp P pre := fun y hy => (mem_nAdds _ _).2 (Or.inr (List.mem_map.2 ⟨y, hy, rfl⟩))
theorem qp_pre {P : List (Nat × Nat)} {pre all : List Pr} (h : pre <+: all) : qp P pre <+: qp P all := by
  obtain ⟨r, rfl⟩ := h
  unfold qp
  rw [List.map_append, nAdds_app]
  exact nAdds_pre _ _

theorem rl_world (w : World) (rb : Nat) : ∃ W, (((w.alloc (.cells #[.pointer (some ⟨rb, 0, none⟩)] 131)).alloc (.cells #[.slice none 0 0] 22)).alloc (.cells #[.int .i64 0] 29)).alloc (.cells #[.slice none 0 0] 22) = W ∧ Below w.heap.size w W ∧ W.heap.size = w.heap.size + 4 ∧
    W.heap[w.heap.size]? = some (.cells #[.pointer (some ⟨rb, 0, none⟩)] 131) ∧ W.heap[w.heap.size + 1]? = some (.cells #[.slice none 0 0] 22) ∧ W.heap[w.heap.size + 1 + 1]? = some (.cells #[.int .i64 0] 29) ∧ W.heap[w.heap.size + 1 + 1 + 1]? = some (.cells #[.slice none 0 0] 22) := by
  have b1 := box_below w (.cells #[.pointer (some ⟨rb, 0, none⟩)] 131)
  have n1 : (w.alloc (.cells #[.pointer (some ⟨rb, 0, none⟩)] 131)).heap[w.heap.size]? = _ := Go.Deep.blk_alloc_new _ _
  have s1 : (w.alloc (.cells #[.pointer (some ⟨rb, 0, none⟩)] 131)).heap.size = w.heap.size + 1 := by simp
  generalize w.alloc (.cells #[.pointer (some ⟨rb, 0, none⟩)] 131) = W1 at *
  have b2 := box_below W1 (.cells #[.slice none 0 0] 22)
  have n2 : (W1.alloc (.cells #[.slice none 0 0] 22)).heap[W1.heap.size]? = _ := Go.Deep.blk_alloc_new _ _
  have s2 : (W1.alloc (.cells #[.slice none 0 0] 22)).heap.size = w.heap.size + 1 + 1 := by simp [s1]
  generalize W1.alloc (.cells #[.slice none 0 0] 22) = W2 at *
  have b3 := box_below W2 (.cells #[.int .i64 0] 29)
  have n3 : (W2.alloc (.cells #[.int .i64 0] 29)).heap[W2.heap.size]? = _ := Go.Deep.blk_alloc_new _ _
  have s3 : (W2.alloc (.cells #[.int .i64 0] 29)).heap.size = w.heap.size + 1 + 1 + 1 := by simp [s2]
  generalize W2.alloc (.cells #[.int .i64 0] 29) = W3 at *
  have b4 := box_below W3 (.cells #[.slice none 0 0] 22)
  have n4 : (W3.alloc (.cells #[.slice none 0 0] 22)).heap[W3.heap.size]? = _ := Go.Deep.blk_alloc_new _ _
  have s4 : (W3.alloc (.cells #[.slice none 0 0] 22)).heap.size = w.heap.size + 4 := by simp [s3]
  generalize W3.alloc (.cells #[.slice none 0 0] 22) = W4 at *
  rw [s1] at n2
  rw [s2] at n3
  rw [s3] at n4
  refine ⟨W4, rfl, ((b1.trans (b2.mono (by omega))).trans (b3.mono (by omega))).trans (b4.mono (by omega)), s4, ?_, ?_, ?_, n4⟩
  · rw [b4.block _ (by omega), b3.block _ (by omega), b2.block _ (by omega)]; exact n1
  · rw [b4.block _ (by omega), b3.block _ (by omega)]; exact n2
  · rw [b4.block _ (by omega)]; exact n3

/-- An own row of pairs, as a slice. -/
theorem owns_pr {w : World} {base : Nat} {v : Value} {l : List (Nat × Nat)} (h : w.ownsRow base 79 2 v l.length (pcells l)) :
    ∃ a c, v = .slice a l.length c ∧ Sp w a l.length (nAt l) ∧ (∀ p, a = some p → base ≤ p.block ∧ p.block < w.heap.size ∧ v.ownBlock = some p.block) := by
  rcases h.2 with ⟨rfl, h0⟩ | ⟨g, cap, cur, rfl, hb, hg, _⟩
  · exact ⟨none, 0, by rw [h0], ⟨0, fun hh => by omega, fun i hi => by omega⟩, fun p hp => by cases hp⟩
  · refine ⟨some ⟨g, 0, none⟩, cap, rfl, ⟨g, fun _ => rfl, fun i hi => ?_⟩, fun p hp => ?_⟩
    · obtain ⟨h1, h2⟩ := pcells_at l i hi
      have e1 := h.cells (g := g) rfl _ _ h1
      have e2 := h.cells (g := g) rfl _ _ h2
      rw [Addr.add_mid, Nat.zero_add] at e1 e2
      exact ⟨e1, e2⟩
    · rw [Option.some.injEq] at hp
      subst hp
      exact ⟨hb, (Array.getElem?_eq_some_iff.1 hg).1, by simp [Value.ownBlock]⟩

theorem kf_drew {B : Nat} {W X : World} (h : KeepsFrom B W X) : KeepsFrom B W X.drew := ⟨h.1, h.2⟩
theorem owns_row' {w : World} {base n : Nat} {v : Value} {xs : List Value} (h : w.ownsRow base 3 1 v n xs) : ∃ a c, v = .slice a n c ∧ True := by
  rcases h.2 with ⟨rfl, h0⟩ | ⟨g, cap, cur, rfl, hb, hg, _⟩
  · exact ⟨none, 0, by rw [h0], trivial⟩
  · exact ⟨_, _, rfl, trivial⟩

/-- At the end: the two results are stored, the loop's deferred calls are let go. -/
theorem Ri.fin {w w1 : World} {rb mb : Nat} {pv : Value} {Q : List (Nat × Nat)} {nums : List Nat} {W X : World} {pv' lv : Value} {D' : DataW Unit} (c : Rcl w w1 rb mb pv) (h : Ri w w1 rb mb pv Q nums W pv' lv D') {Dd : Nat} (hD : w1.heap.size ≤ Dd) {ob : Obj} (hK : W.heap[Dd]? = some ob) (hob : ob.isCells = false) (v u1 u2 : Value)
    (hX : (W.setCell ⟨w.heap.size + 1, 0, none⟩ lv).setCell ⟨w.heap.size + 1 + 1, 0, none⟩ v = X) (y1 : W.cell? ⟨w.heap.size + 1, 0, none⟩ = some u1) (y2 : W.cell? ⟨w.heap.size + 1 + 1, 0, none⟩ = some u2) :
    X.heap[Dd]? = some ob ∧ ∀ W', X.grownBy W' (some Dd) → W'.cell? ⟨w.heap.size + 1, 0, none⟩ = some lv ∧ W'.cell? ⟨w.heap.size + 1 + 1, 0, none⟩ = some v ∧ Rol W' rb mb pv' Q D' ∧ W'.ownsRow w.heap.size 3 1 lv (cs nums).length (vals (cs nums)) ∧ Fr (rex rb mb pv) w W' := by
  have s1 := c.s1
  have c1 := c.rb
  have c2 := c.mb
  have hsz := h.sz
  have g1 := gb_set W ⟨w.heap.size + 1, 0, none⟩ lv
  have g2 := gb_set (W.setCell ⟨w.heap.size + 1, 0, none⟩ lv) ⟨w.heap.size + 1 + 1, 0, none⟩ v
  have k1 : ((W.setCell ⟨w.heap.size + 1, 0, none⟩ lv).setCell ⟨w.heap.size + 1 + 1, 0, none⟩ v).cell? ⟨w.heap.size + 1, 0, none⟩ = some lv := (World.cell?_setCell_other _ _ _ _ (by intro hh; simp only [Addr.mk.injEq] at hh; omega)).trans (World.cell?_setCell_same _ _ _ y1)
  have k2 : ((W.setCell ⟨w.heap.size + 1, 0, none⟩ lv).setCell ⟨w.heap.size + 1 + 1, 0, none⟩ v).cell? ⟨w.heap.size + 1 + 1, 0, none⟩ = some v := World.cell?_setCell_same _ _ _ ((World.cell?_setCell_other _ _ _ _ (by intro hh; simp only [Addr.mk.injEq] at hh; omega)).trans y2)
  have hs1 : (W.setCell ⟨w.heap.size + 1, 0, none⟩ lv).heap.size = W.heap.size := World.size_setCell _ _ _
  have hs2 : ((W.setCell ⟨w.heap.size + 1, 0, none⟩ lv).setCell ⟨w.heap.size + 1 + 1, 0, none⟩ v).heap.size = W.heap.size := by rw [World.size_setCell, World.size_setCell]
  have hbl : ∀ b, b < W.heap.size → b ≠ w.heap.size + 1 → b ≠ w.heap.size + 1 + 1 → ((W.setCell ⟨w.heap.size + 1, 0, none⟩ lv).setCell ⟨w.heap.size + 1 + 1, 0, none⟩ v).heap[b]? = W.heap[b]? := fun b hb h1 h2 =>
    (g2.block b (by rw [hs1]; exact hb) (fun e => h2 (Option.some.inj e))).trans (g1.block b hb (fun e => h1 (Option.some.inj e)))
  have hpv : ∀ b, pv'.ownBlock = some b → b ≠ w.heap.size + 1 ∧ b ≠ w.heap.size + 1 + 1 := fun b hb => by rcases h.pvn c hb with h3 | h3 <;> omega
  have hlv : ∀ b, lv.ownBlock = some b → b ≠ w.heap.size + 1 ∧ b ≠ w.heap.size + 1 + 1 := fun b hb => by have := (h.own.lt b hb).1; omega
  have o1 := owns_kept (owns_kept h.rol.own g1 (fun b hb e => (hpv b hb).1 (Option.some.inj e).symm)) g2 (fun b hb e => (hpv b hb).2 (Option.some.inj e).symm)
  have o2 := owns_kept (owns_kept h.own g1 (fun b hb e => (hlv b hb).1 (Option.some.inj e).symm)) g2 (fun b hb e => (hlv b hb).2 (Option.some.inj e).symm)
  have f1 := (h.fr.setCell (p := ⟨w.heap.size + 1, 0, none⟩) (fun hb => by dsimp only at hb; omega) lv).setCell (p := ⟨w.heap.size + 1 + 1, 0, none⟩) (fun hb => by dsimp only at hb; omega) v
  have hKlt := (Array.getElem?_eq_some_iff.1 hK).1
  rw [hX] at k1 k2 hs2 hbl o1 o2 f1
  have hKX : X.heap[Dd]? = some ob := (hbl Dd hKlt (by omega) (by omega)).trans hK
  refine ⟨hKX, fun W' h3 => ?_⟩
  have hr : ∀ r, some Dd = some r → ∃ o : Obj, X.heap[r]? = some o ∧ o.isCells = false := fun r e => by cases e; exact ⟨_, hKX, hob⟩
  have hcl : ∀ {b : Nat} {cc : Array Value} {e : TypeId} {z : Nat × Nat}, X.heap[b]? = some (.cells cc e z) → some Dd ≠ some b := fun {b cc e z} hb e2 => by
    cases e2
    rw [hKX] at hb
    cases hb
    simp [Obj.isCells] at hob
  refine ⟨cell_kept k1 h3 hr, cell_kept k2 h3 hr, h.rol.of ?_ ?_ (owns_kept o1 h3 (fun b hb => ?_)), owns_mono (owns_kept o2 h3 (fun b hb => ?_)) (by omega), f1.grown h3 (fun b e hb => by cases e; omega)⟩
  · rw [h3.block rb (by omega) (fun e => by have := Option.some.inj e; omega)]
    exact hbl rb (by omega) (by omega) (by omega)
  · rw [h3.block mb (by omega) (fun e => by have := Option.some.inj e; omega)]
    exact hbl mb (by omega) (by omega) (by omega)
  · obtain ⟨cc, z, hc⟩ := owns_blk o1 hb
    exact hcl hc
  · obtain ⟨cc, z, hc⟩ := owns_blk o2 hb
    exact hcl hc

/-- What the roll's list answers. -/
def RlIs (rb mb : Nat) (pv : Value) (P : List (Nat × Nat)) (all : List Pr) (w : World) (e : Ending) (w' : World) : Prop :=
  ((qp P all).length ≤ 2048 ∧ ∃ lv pv' D', e = .returned (.tuple #[lv, .int .i64 0]) ∧ Rol w' rb mb pv' (qp P all) D' ∧ w'.ownsRow w.heap.size 3 1 lv (cs (nms (qp P all) all)).length (vals (cs (nms (qp P all) all))) ∧ Fr (rex rb mb pv) w w' ∧ (pv'.ownBlock = pv.ownBlock ∨ ∀ b, pv'.ownBlock = some b → w.heap.size ≤ b) ∧ ∀ b, lv.ownBlock = some b → pv'.ownBlock ≠ some b)
  ∨ (2048 < (qp P all).length ∧ e = .returned (.tuple #[.slice none 0 0, .int .i64 2]) ∧ Fr (rex rb mb pv) w w')

set_option maxRecDepth 100000 in
set_option maxHeartbeats 4000000 in
theorem rlist_any (gf : Nat) (lb : Array Value) (all : List Pr) (bs : Nat → Prop) (rb mb : Nat) (pv : Value) (P : List (Nat × Nat)) (D : DataW Unit) (w w0 : World) (hent : ∀ args w, (callFunc gf args).run Tryd.prog w = .ok (.enter gf args) w) (hit : Itr 8 gf lb all bs w0) (hb0 : Below w0.heap.size w0 w)
    (hR : Rol w rb mb pv P D) (hP : P.length ≤ 2048) (hbs : ∀ b, bs b → b < w.heap.size ∧ ¬ rex rb mb pv b) (hall : all.length ≤ 4194304) :
    Calls Tryd.prog 76 #[.pointer (some ⟨rb, 0, none⟩), .func (.func gf) #[] lb] w fun e w' => RlIs rb mb pv P all w e w' := by
  obtain ⟨i0, hi, hz0, hz1, hz2⟩ := info_parts Tryd.info3
  have HI : Hid (Tryd.prog.info? 3 = some i0 ∧ i0.zero = some (.int .i64 0) ∧ i0.size = 1 ∧ i0.bytes = 8) := ⟨hi, hz0, hz1, hz2⟩
  clear hi hz0 hz1 hz2
  obtain ⟨i7, hi, hz0, hz1, hz2⟩ := info_parts Tryd.info79
  have HJ : Hid (Tryd.prog.info? 79 = some i7 ∧ i7.zero = some (.agg #[.int .i64 0, .int .i64 0]) ∧ i7.size = 2 ∧ i7.bytes = 16) := ⟨hi, hz0, hz1, hz2⟩
  clear hi hz0 hz1 hz2
  have HR := hid hR
  have HBS := hid hbs
  have HB0 := hid hb0
  have HIT := hid hit
  have HEN := hid hent
  have HP := hid hP
  have HAL := hid hall
  clear hR hbs hb0 hit hent hP hall
  refine (callsIn_wide (n := 9)).1 (callsIn_of_wp_marks Tryd.func76 rfl trivial ?_ rfl)
  simp only [Tryd.ntmps76, List.size_toArray, List.length_cons, List.length_nil, Nat.reduceAdd, Nat.reduceSub, Array.replicate_succ, Array.replicate_zero, List.push_toArray, List.append_toArray, List.nil_append, List.cons_append]
  refine wpIn_wide.2 ?_
  go_wp2_with fail
  obtain ⟨w1, hw1, hb1, hs1, n0, n1, n2, n3⟩ := rl_world w rb
  rw [hw1]
  clear hw1
  have hap := HR.out.apart
  have C : Rcl w w1 rb mb pv := ⟨hs1, hap.2.2.1, hap.2.2.2, fun b hb => (HR.out.own.lt b hb).2⟩
  have HC := hid C
  have HI0 : Hid (Ri w w1 rb mb pv P [] w1 pv (.slice none 0 0) D) := hid ⟨HR.out.below hb1, fun _ _ _ => rfl, n3, World.ownsRow_nil _ _ _ _, Fr.of_below hb1, Nat.le_refl _, Or.inl rfl, fun b hb => by simp [Value.ownBlock] at hb⟩
  have HN := hid (And.intro n0 (And.intro n1 n2))
  have HB1 := hid hb1
  have HS1 := hid hs1
  clear hs1 hap C hb1 n0 n1 n2 n3
  refine (wpIn_wide (n := 9)).1 ?_
  refine wpIn_rangeFunc_ownH (F := Fence.wide) rfl (by decide) (gf := gf) (lb := lb) rfl trivial HEN.out (n := 9) HIT.out
    (fun h k b hb => (k b hb).trans (h b hb)) (fun W l o o' h1 h2 h3 h4 b hb => ?_) (HB0.out.trans (HB1.out.mono HB0.out.size)) (fun _ => rfl)
    (fun pre W => Hid ((qp P pre).length ≤ 2048 ∧ ∃ pv' lv D', Ri w w1 rb mb pv (qp P pre) (nms (qp P pre) pre) W pv' lv D'))
    (fun c pre W => c = .ret ∧ Hid (Fr (rex rb mb pv) w W ∧ W.cell? ⟨w.heap.size + 1, 0, none⟩ = some (.slice none 0 0) ∧ W.cell? ⟨w.heap.size + 1 + 1, 0, none⟩ = some (.int .i64 2) ∧ w1.heap.size ≤ W.heap.size ∧ 2048 < (qp P pre).length))
    ?hI ?hIx ?h0 (fun x a' W => ∃ Bq, w1.heap.size ≤ Bq ∧ W.cell? ⟨Bq, 0, none⟩ = some (.int .i64 ((x.1.1 : Nat) : Int)) ∧ W.cell? ⟨Bq, 1, none⟩ = some (.int .i64 ((x.2.1 : Nat) : Int)) ∧ a' = { tmps := #[.pointer (some ⟨rb, 0, none⟩), .func (.func gf) #[] lb, .pointer (some ⟨w.heap.size, 0, none⟩), undef, .pointer (some ⟨w.heap.size + 1, 0, none⟩), .pointer (some ⟨w.heap.size + 1 + 1, 0, none⟩), .pointer (some ⟨w.heap.size + 1 + 1 + 1, 0, none⟩), .pointer (some ⟨Bq, 0, none⟩), undef, undef, .func (.func gf) #[] lb, .agg #[.int .i64 ((x.1.1 : Nat) : Int), .int .i64 ((x.2.1 : Nat) : Int)], undef, undef, undef, undef, undef, undef, undef, undef, undef, undef, undef, undef, undef, undef, undef, undef, undef, undef, undef, undef, undef, undef, undef, undef, undef, undef, undef, undef, undef, undef, undef, undef, undef, undef, undef, undef, undef, undef, undef, undef, undef, undef, undef], defers := [] }) ?hAx ?assign ?body ?done ?stop
  case hI =>
    intro pre A B row hs hg hr
    obtain ⟨h1, pv', lv, D', h2⟩ := hs.out
    exact hid ⟨h1, pv', lv, D', h2.keep HC.out hg hr⟩
  case hIx =>
    intro c pre A B row hs hg hr
    obtain ⟨h1, h2, h3, h4, h5⟩ := hs.2.out
    exact ⟨hs.1, hid ⟨h1.grown hg (fun b e hb => by have := (hr b e).1; have := HS1.out; omega), cell_kept h2 hg (fun r e => (hr r e).2), cell_kept h3 hg (fun r e => (hr r e).2), Nat.le_trans h4 hg.size, h5⟩⟩
  case h0 => exact hid ⟨HP.out, pv, _, D, HI0.out⟩
  case hAx =>
    intro x a' s A B row hs hg hr
    obtain ⟨Bq, h1, h2, h3, h4⟩ := hs
    exact ⟨Bq, h1, cell_kept h2 hg (fun r e => (hr r e).2), cell_kept h3 hg (fun r e => (hr r e).2), h4⟩
  case assign =>
    rintro l pre x W K hi hK
    gi_wp2
    obtain ⟨h1, pv', lv, D', h2⟩ := hi.out
    have hb := box_below W (.cells #[.int .i64 ((x.1.1 : Nat) : Int), .int .i64 ((x.2.1 : Nat) : Int)] 79)
    refine hK _ _ ((KeepsOthers.alloc _ _).from _) (fun b hbb => hb.block _ ?_) (hid ⟨h1, pv', lv, D', h2.keep HC.out (row := none) ⟨hb.os, hb.tape, hb.output, hb.size, fun k hk _ => hb.block k hk⟩ (fun r e => by cases e)⟩) ⟨W.heap.size, h2.sz, cell_of_alloc rfl, cell_of_alloc rfl, rfl⟩
    have := (HBS.out b hbb).1
    have := h2.fr.size
    omega
  case body =>
    rintro l pre x a' W hl ⟨rr, hrr⟩ hi ⟨Bq, hBq, z0, z1, rfl⟩ hlen2
    obtain ⟨hq, pv', lv, D', hRi⟩ := hi.out
    clear hi
    obtain ⟨pa, pc, hpv, _, _⟩ := owns_pr hRi.rol.own
    obtain ⟨la, lc, hlv, _⟩ := owns_row hRi.own
    have HRi := hid hRi
    have y0 : W.cell? ⟨w.heap.size, 0, none⟩ = some (.pointer (some ⟨rb, 0, none⟩)) := cell_of_cells ((hRi.old _ (by omega) (by omega)).trans HN.out.1) rfl
    have yr0 : W.cell? ⟨rb, 0, none⟩ = some (.map (some mb)) := cell_of_cells hRi.rol.blk rfl
    have yr1 : W.cell? ⟨rb, 1, none⟩ = some pv' := cell_of_cells hRi.rol.blk rfl
    have yb : W.heap[w.heap.size + 1]? = some (.cells #[.slice none 0 0] 22) := (hRi.old _ (by omega) (by omega)).trans HN.out.2.1
    have yc : W.heap[w.heap.size + 1 + 1]? = some (.cells #[.int .i64 0] 29) := (hRi.old _ (by omega) (by omega)).trans HN.out.2.2
    have yd : W.cell? ⟨w.heap.size + 1 + 1 + 1, 0, none⟩ = some lv := cell_of_cells hRi.lst rfl
    obtain ⟨cn, kn, hlook, HLK⟩ := Rol.look (w := W.drew) (hRi.rol.below ((Sm.refl W).drew.below _)) (prn_sml x)
    dsimp only [prn] at hlook
    have hlen3 : (cs (nms (qp P pre) pre)).length ≤ 4194304 := by rw [nms_len]; have := HAL.out; omega
    refine wpIn_block (wpIn_seq ?_)
    refine G_round (fun z => z = W.drew) (fun _ => false) (by kernel_rfl) (fun ⟨_, _, h⟩ => h) (by kernel_rfl) rfl (fun _ => ?_)
    refine G_take (i := 0) (oi := { dst := some 13, op := Op.load 131 (Operand.tmp 2), type := 131, pos := _, after := #[], guard := none }) (v := .pointer (some ⟨rb, 0, none⟩)) rfl (by kernel_rfl) (by kernel_rfl) (by kernel_rfl) (by kernel_rfl) (fun _ _ _ h => h) (by rfl) (fun u hu => ?_) rfl ?_
    · (try dsimp only at hu); subst hu; go_simp
    (try simp only [Act.put, List.setIfInBounds_toArray, List.set_cons_zero, List.set_cons_succ])
    refine G_take (i := 1) (oi := { dst := some 14, op := Op.nilCheck (Operand.tmp 13), type := 0, pos := _, after := #[{ on := 0, ground := Ground.data }], guard := none }) (v := .pointer (some ⟨rb, 0, none⟩)) rfl (by kernel_rfl) (by kernel_rfl) (by kernel_rfl) (by kernel_rfl) (fun _ _ _ h => h) (by rfl) (fun u hu => ?_) rfl ?_
    · (try dsimp only at hu); subst hu; go_simp
    (try simp only [Act.put, List.setIfInBounds_toArray, List.set_cons_zero, List.set_cons_succ])
    refine G_take (i := 2) (oi := { dst := some 15, op := Op.fieldAddr 117 (Operand.tmp 14) 0, type := 0, pos := _, after := #[{ on := 1, ground := Ground.data }], guard := none }) (v := .pointer (some ⟨rb, 0, none⟩)) rfl (by kernel_rfl) (by kernel_rfl) (by kernel_rfl) (by kernel_rfl) (fun _ _ _ h => h) (by rfl) (fun u hu => ?_) rfl ?_
    · (try dsimp only at hu); subst hu; go_simp
    (try simp only [Act.put, List.setIfInBounds_toArray, List.set_cons_zero, List.set_cons_succ])
    refine G_take (i := 3) (oi := { dst := some 16, op := Op.load 115 (Operand.tmp 15), type := 115, pos := _, after := #[{ on := 2, ground := Ground.data }], guard := none }) (v := .map (some mb)) rfl (by kernel_rfl) (by kernel_rfl) (by kernel_rfl) (by kernel_rfl) (fun _ _ _ h => h) (by rfl) (fun u hu => ?_) rfl ?_
    · (try dsimp only at hu); subst hu; go_simp
    (try simp only [Act.put, List.setIfInBounds_toArray, List.set_cons_zero, List.set_cons_succ])
    refine G_take (i := 4) (oi := { dst := some 17, op := Op.load 79 (Operand.tmp 7), type := 79, pos := _, after := #[], guard := none }) (v := .agg #[.int .i64 ((x.1.1 : Nat) : Int), .int .i64 ((x.2.1 : Nat) : Int)]) rfl (by kernel_rfl) (by kernel_rfl) (by kernel_rfl) (by kernel_rfl) (fun _ _ _ h => h) (by rfl) (fun u hu => ?_) rfl ?_
    · (try dsimp only at hu); subst hu; go_simp
    (try simp only [Act.put, List.setIfInBounds_toArray, List.set_cons_zero, List.set_cons_succ])
    refine G_take (i := 5) (oi := { dst := some 18, op := Op.lookup 115 (Operand.tmp 16) (Operand.tmp 17) true, type := 132, pos := _, after := #[{ on := 3, ground := Ground.data }, { on := 4, ground := Ground.data }], guard := none }) (v := .tuple #[.int .i64 cn, .bool kn]) rfl (by kernel_rfl) (by kernel_rfl) (by kernel_rfl) (by kernel_rfl) (fun _ _ _ h => h) (by rfl) (fun u hu => ?_) rfl ?_
    · (try dsimp only at hu); subst hu; go_simp
    (try simp only [Act.put, List.setIfInBounds_toArray, List.set_cons_zero, List.set_cons_succ])
    refine G_take (i := 6) (oi := { dst := some 12, op := Op.move (Operand.tmp 18), type := 132, pos := _, after := #[{ on := 5, ground := Ground.data }], guard := none }) (v := .tuple #[.int .i64 cn, .bool kn]) rfl (by kernel_rfl) (by kernel_rfl) (by kernel_rfl) (by kernel_rfl) (fun _ _ _ h => h) (by rfl) (fun u hu => ?_) rfl ?_
    · (try dsimp only at hu); subst hu; go_simp
    (try simp only [Act.put, List.setIfInBounds_toArray, List.set_cons_zero, List.set_cons_succ])
    refine G_take (i := 7) (oi := { dst := some 19, op := Op.extract (Operand.tmp 12) 0, type := 3, pos := _, after := #[{ on := 6, ground := Ground.data }], guard := none }) (v := .int .i64 cn) rfl (by kernel_rfl) (by kernel_rfl) (by kernel_rfl) (by kernel_rfl) (fun _ _ _ h => h) (by rfl) (fun u hu => ?_) rfl ?_
    · (try dsimp only at hu); subst hu; go_simp
    (try simp only [Act.put, List.setIfInBounds_toArray, List.set_cons_zero, List.set_cons_succ])
    refine G_take (i := 8) (oi := { dst := some 20, op := Op.extract (Operand.tmp 12) 1, type := 4, pos := _, after := #[{ on := 6, ground := Ground.data }, { on := 9, ground := Ground.gcOnly Departure.lateStores }], guard := none }) (v := .bool kn) rfl (by kernel_rfl) (by kernel_rfl) (by kernel_rfl) (by kernel_rfl) (fun _ _ _ h => h) (by rfl) (fun u hu => ?_) rfl ?_
    · (try dsimp only at hu); subst hu; go_simp
    (try simp only [Act.put, List.setIfInBounds_toArray, List.set_cons_zero, List.set_cons_succ])
    refine G_take (i := 9) (oi := { dst := some 8, op := Op.assign (Operand.tmp 19), type := 3, pos := _, after := #[{ on := 7, ground := Ground.data }, { on := 0, ground := Ground.phase }, { on := 1, ground := Ground.phase }, { on := 2, ground := Ground.phase }, { on := 3, ground := Ground.phase }, { on := 4, ground := Ground.phase }, { on := 5, ground := Ground.phase }, { on := 6, ground := Ground.phase }, { on := 7, ground := Ground.phase }, { on := 8, ground := Ground.textOnly Departure.lateStores }], guard := none }) (v := .int .i64 cn) rfl (by kernel_rfl) (by kernel_rfl) (by kernel_rfl) (by kernel_rfl) (fun _ _ _ h => h) (by rfl) (fun u hu => ?_) rfl ?_
    · (try dsimp only at hu); subst hu; go_simp
    (try simp only [Act.put, List.setIfInBounds_toArray, List.set_cons_zero, List.set_cons_succ])
    refine G_take (i := 10) (oi := { dst := some 9, op := Op.assign (Operand.tmp 20), type := 4, pos := _, after := #[{ on := 8, ground := Ground.data }, { on := 9, ground := Ground.chain }, { on := 0, ground := Ground.phase }, { on := 1, ground := Ground.phase }, { on := 2, ground := Ground.phase }, { on := 3, ground := Ground.phase }, { on := 4, ground := Ground.phase }, { on := 5, ground := Ground.phase }, { on := 6, ground := Ground.phase }, { on := 7, ground := Ground.phase }, { on := 8, ground := Ground.phase }, { on := 9, ground := Ground.phase }], guard := none }) (v := .bool kn) rfl (by kernel_rfl) (by kernel_rfl) (by kernel_rfl) (by kernel_rfl) (fun _ _ _ h => h) (by rfl) (fun u hu => ?_) rfl ?_
    · (try dsimp only at hu); subst hu; go_simp
    (try simp only [Act.put, List.setIfInBounds_toArray, List.set_cons_zero, List.set_cons_succ])
    refine G_done (by kernel_rfl) ?_ _
    dsimp only [Exit.then]
    subst hpv
    subst hlv
    by_cases hk : prn x ∈ qp P pre
    · obtain rfl : kn = true := HLK.out.1.2 hk
      obtain rfl := HLK.out.2 hk
      clear hlook y0 yr0 yr1 yb yc
      generalize hixe : ix (prn x) (qp P pre) = kx
      gi_wp2_with (gi_at_builtin; refine wpListIn_append_own_at _ rfl _ _ 22 rfl w1.heap.size 3 i0 (.int .i64 0) 1 8 Tryd.underlying22 HI.out.1 HI.out.2.1 HI.out.2.2.1 HI.out.2.2.2 rfl (by decide) _ _ _ rfl ((HRi.out.own.alloc _).drew) ⟨W.heap.size, 0, none⟩ 1 1 [.int .i64 (kx : Int)] rfl rfl (cell_one_new W _ _) (ints_oneCell .i64 [(kx : Int)]) (by unfold maxLen; omega) (by omega) (by have := HRi.out.sz; simp; omega) ?_; intro v' w7 hown' hgrow hnil hloc; obtain ⟨g1, g2, G⟩ := HRi.out.num HC.out (k := kx) hown' ⟨hgrow.os, hgrow.tape, hgrow.output, hgrow.size, hgrow.block⟩ hloc; replace g1 : w7.cell? ⟨w.heap.size + 1 + 1 + 1, 0, none⟩ = some _ := g1; replace g2 : w7.frozen? ⟨w.heap.size + 1 + 1 + 1, 0, none⟩ = false := g2; obtain ⟨la2, lc2, hlv2, _⟩ := owns_row' hown'; subst hlv2; clear hown' hgrow hnil hloc)
      have e1 : qp P (pre ++ [x]) = qp P pre := by rw [qp_snoc, nAdd, if_pos hk]
      have hfin : (qp P (pre ++ [x])).length ≤ 2048 ∧ ∃ pv' lv D', Ri w w1 rb mb pv (qp P (pre ++ [x])) (nms (qp P (pre ++ [x])) (pre ++ [x])) (w7.setCell ⟨w.heap.size + 3, 0, none⟩ (.slice la2 ((cs (nms (qp P pre) pre)).length + 1) lc2)) pv' lv D' := by
        rw [e1, nms_snoc, hixe]
        exact ⟨hq, _, _, _, G.out.1⟩
      exact ⟨G.out.2, fun b hb => (G.out.1.fr.block b (HBS.out b hb).1 (HBS.out b hb).2).trans (HRi.out.fr.block b (HBS.out b hb).1 (HBS.out b hb).2).symm, hid hfin⟩
    · obtain rfl : kn = false := by cases hh : kn with | false => rfl | true => exact absurd (HLK.out.1.1 hh) hk
      by_cases hf : (qp P pre).length = 2048
      · have hff : (((qp P pre).length : Int) == 2048) = true := by rw [hf]; rfl
        have y1 : W.cell? ⟨w.heap.size + 1, 0, none⟩ = some (.slice none 0 0) := cell_of_cells yb rfl
        have y2 : W.cell? ⟨w.heap.size + 1 + 1, 0, none⟩ = some (.int .i64 0) := cell_of_cells yc rfl
        have f1 : W.frozen? ⟨w.heap.size + 1, 0, none⟩ = false := by simp [World.frozen?, yb]
        have f2 : W.frozen? ⟨w.heap.size + 1 + 1, 0, none⟩ = false := by simp [World.frozen?, yc]
        have HF := hid hf
        clear hlook yb yc hf
        gi_wp2
        have s1 := HS1.out
        have hfr := (HRi.out.fr.setCell (p := ⟨w.heap.size + 1, 0, none⟩) (fun hb => by dsimp only at hb; omega) (.slice none 0 0)).setCell (p := ⟨w.heap.size + 1 + 1, 0, none⟩) (fun hb => by dsimp only at hb; omega) (.int .i64 2)
        refine ⟨kf_drew (kf_trans (kf_grown (gb_set W ⟨w.heap.size + 1, 0, none⟩ (.slice none 0 0)) (fun b e hb => by have e' := Option.some.inj e; dsimp only at e'; omega)) (kf_grown (gb_set _ ⟨w.heap.size + 1 + 1, 0, none⟩ (.int .i64 2)) (fun b e hb => by have e' := Option.some.inj e; dsimp only at e'; omega)) : KeepsFrom w1.heap.size W ((W.setCell ⟨w.heap.size + 1, 0, none⟩ (.slice none 0 0)).setCell ⟨w.heap.size + 1 + 1, 0, none⟩ (.int .i64 2))), rfl, hid ⟨⟨hfr.os, hfr.tape, hfr.output, hfr.size, hfr.block⟩, ?_, ?_, ?_, ?_⟩⟩
        · exact ((Sm.refl _).drew.cell _).trans <| (World.cell?_setCell_other _ _ _ _ (by intro hh; simp only [Addr.mk.injEq] at hh; omega)).trans (World.cell?_setCell_same _ _ _ y1)
        · exact ((Sm.refl _).drew.cell _).trans <| World.cell?_setCell_same _ _ _ ((World.cell?_setCell_other _ _ _ _ (by intro hh; simp only [Addr.mk.injEq] at hh; omega)).trans y2)
        · simp only [World.size_drew, World.size_setCell]; exact HRi.out.sz
        · rw [qp_snoc, nAdd, if_neg hk, List.length_append, HF.out]; simp
      · have hff : (((qp P pre).length : Int) == 2048) = false := by simp; omega
        clear hlook yb yc
        gi_wp2_with fail
        obtain ⟨w2, D2, hupd, hg2, hm2, hnm⟩ := Rol.store (w := W.drew.drew) (HRi.out.rol.below ((Sm.refl W).drew.drew.below _)) (prn_sml x) hk hq
        dsimp only [prn] at hupd
        refine G_round (fun z => z = W.drew.drew) (fun i => i == 6) (by kernel_rfl) (fun ⟨_, _, h⟩ => h) (by kernel_rfl) rfl (fun _ => ?_)
        refine G_take (i := 0) (oi := { dst := some 34, op := Op.load 131 (Operand.tmp 2), type := 131, pos := _, after := #[], guard := none }) (v := .pointer (some ⟨rb, 0, none⟩)) rfl (by kernel_rfl) (by kernel_rfl) (by kernel_rfl) (by kernel_rfl) (fun _ _ _ h => h) (by rfl) (fun u hu => ?_) rfl ?_
        · (try dsimp only at hu); subst hu; go_simp
        (try simp only [Act.put, List.setIfInBounds_toArray, List.set_cons_zero, List.set_cons_succ])
        refine G_take (i := 1) (oi := { dst := some 35, op := Op.nilCheck (Operand.tmp 34), type := 0, pos := _, after := #[{ on := 0, ground := Ground.data }], guard := none }) (v := .pointer (some ⟨rb, 0, none⟩)) rfl (by kernel_rfl) (by kernel_rfl) (by kernel_rfl) (by kernel_rfl) (fun _ _ _ h => h) (by rfl) (fun u hu => ?_) rfl ?_
        · (try dsimp only at hu); subst hu; go_simp
        (try simp only [Act.put, List.setIfInBounds_toArray, List.set_cons_zero, List.set_cons_succ])
        refine G_take (i := 2) (oi := { dst := some 36, op := Op.fieldAddr 117 (Operand.tmp 35) 0, type := 0, pos := _, after := #[{ on := 1, ground := Ground.data }], guard := none }) (v := .pointer (some ⟨rb, 0, none⟩)) rfl (by kernel_rfl) (by kernel_rfl) (by kernel_rfl) (by kernel_rfl) (fun _ _ _ h => h) (by rfl) (fun u hu => ?_) rfl ?_
        · (try dsimp only at hu); subst hu; go_simp
        (try simp only [Act.put, List.setIfInBounds_toArray, List.set_cons_zero, List.set_cons_succ])
        refine G_take (i := 3) (oi := { dst := some 37, op := Op.load 115 (Operand.tmp 36), type := 115, pos := _, after := #[{ on := 2, ground := Ground.data }], guard := none }) (v := .map (some mb)) rfl (by kernel_rfl) (by kernel_rfl) (by kernel_rfl) (by kernel_rfl) (fun _ _ _ h => h) (by rfl) (fun u hu => ?_) rfl ?_
        · (try dsimp only at hu); subst hu; go_simp
        (try simp only [Act.put, List.setIfInBounds_toArray, List.set_cons_zero, List.set_cons_succ])
        refine G_take (i := 4) (oi := { dst := some 38, op := Op.load 79 (Operand.tmp 7), type := 79, pos := _, after := #[], guard := none }) (v := .agg #[.int .i64 ((x.1.1 : Nat) : Int), .int .i64 ((x.2.1 : Nat) : Int)]) rfl (by kernel_rfl) (by kernel_rfl) (by kernel_rfl) (by kernel_rfl) (fun _ _ _ h => h) (by rfl) (fun u hu => ?_) rfl ?_
        · (try dsimp only at hu); subst hu; go_simp
        (try simp only [Act.put, List.setIfInBounds_toArray, List.set_cons_zero, List.set_cons_succ])
        refine G_take (i := 5) (oi := { dst := some 39, op := Op.move (Operand.tmp 8), type := 3, pos := _, after := #[], guard := none }) (v := .int .i64 ((qp P pre).length : Nat)) rfl (by kernel_rfl) (by kernel_rfl) (by kernel_rfl) (by kernel_rfl) (fun _ _ _ h => h) (by rfl) (fun u hu => ?_) rfl ?_
        · (try dsimp only at hu); subst hu; go_simp
        (try simp only [Act.put, List.setIfInBounds_toArray, List.set_cons_zero, List.set_cons_succ])
        refine G_step (i := 6) (o := { dst := none, op := Op.mapUpdate 115 (Operand.tmp 37) (Operand.tmp 38) (Operand.tmp 39), type := 0, pos := _, after := #[{ on := 3, ground := Ground.data }, { on := 4, ground := Ground.data }, { on := 5, ground := Ground.data }, { on := 0, ground := Ground.phase }, { on := 1, ground := Ground.phase }, { on := 2, ground := Ground.phase }, { on := 3, ground := Ground.phase }, { on := 4, ground := Ground.phase }, { on := 5, ground := Ground.phase }], guard := none }) (by kernel_rfl) rfl (fun K' hK => ?_)
        go_simp
        refine hK.out _ _ (fun h => absurd h (by decide)) (fun _ => ?_)
        (try simp only [Act.put, List.setIfInBounds_toArray, List.set_cons_zero, List.set_cons_succ])
        refine G_done (by kernel_rfl) ?_ _
        dsimp only [Exit.then]
        gi_wp2_with fail
        have hg2' : W.grownBy w2 (some mb) := ⟨hg2.os, hg2.tape, hg2.output, hg2.size, hg2.block⟩
        obtain ⟨m1, m2, m3, m4, m5⟩ := HRi.out.map HC.out hg2'
        have hmbl := HC.out.mb
        have hs1' := HS1.out
        have hBl : Bq < W.heap.size := World.block_lt_of_cell? _ _ z0
        have hWl : w1.heap.size ≤ W.heap.size := HRi.out.sz
        have x0 : w2.cell? ⟨w.heap.size, 0, none⟩ = some (.pointer (some ⟨rb, 0, none⟩)) := (World.cell?_of_block (w := W) (m3 _ (Nat.le_refl _) (by dsimp only; omega))).trans y0
        have x1 : w2.cell? ⟨rb, 1, none⟩ = some (.slice pa (qp P pre).length pc) := (World.cell?_of_block (w := W) m1).trans yr1
        have x2 : w2.cell? ⟨Bq, 0, none⟩ = some (.int .i64 ((x.1.1 : Nat) : Int)) := (World.cell?_of_block (w := W) (m3 _ (by dsimp only; omega) hBl)).trans z0
        have x3 : w2.cell? ⟨Bq, 1, none⟩ = some (.int .i64 ((x.2.1 : Nat) : Int)) := (World.cell?_of_block (w := W) (m3 _ (by dsimp only; omega) hBl)).trans z1
        have HM2 := hid m2
        have hUb : (w2.alloc (.cells #[.int .i64 ((x.1.1 : Nat) : Int), .int .i64 ((x.2.1 : Nat) : Int)] 79)).heap[w2.heap.size]? = some (.cells #[.int .i64 ((x.1.1 : Nat) : Int), .int .i64 ((x.2.1 : Nat) : Int)] 79) := Go.Deep.blk_alloc_new _ _
        have hS0 : (fun z : World => z.cell? ⟨w.heap.size, 0, none⟩ = some (.pointer (some ⟨rb, 0, none⟩)) ∧ z.cell? ⟨rb, 1, none⟩ = some (.slice pa (qp P pre).length pc)) w2.drew := ⟨x0, x1⟩
        have hS1 : (fun z : World => z.cell? ⟨w.heap.size, 0, none⟩ = some (.pointer (some ⟨rb, 0, none⟩)) ∧ z.cell? ⟨rb, 1, none⟩ = some (.slice pa (qp P pre).length pc)) (w2.alloc (.cells #[.int .i64 ((x.1.1 : Nat) : Int), .int .i64 ((x.2.1 : Nat) : Int)] 79)).drew := ⟨cell_alloc1 _ x0, cell_alloc1 _ x1⟩
        clear m1 m2 m3 m4 m5 z0 z1 y0 yr0 yr1 hupd
        refine G_round (fun z : World => z.cell? ⟨w.heap.size, 0, none⟩ = some (.pointer (some ⟨rb, 0, none⟩)) ∧ z.cell? ⟨rb, 1, none⟩ = some (.slice pa (qp P pre).length pc)) (fun i => i == 10) (by kernel_rfl) (fun ⟨_, _, h⟩ => h) (by kernel_rfl) hS0 (fun _ => ?_)
        refine G_take (i := 0) (oi := { dst := some 40, op := Op.load 131 (Operand.tmp 2), type := 131, pos := _, after := #[], guard := none }) (v := .pointer (some ⟨rb, 0, none⟩)) rfl (by kernel_rfl) (by kernel_rfl) (by kernel_rfl) (by kernel_rfl) (fun _ _ _ h => h) (by rfl) (fun u hu => ?_) hS0 ?_
        · (try dsimp only at hu); go_simp
        (try simp only [Act.put, List.setIfInBounds_toArray, List.set_cons_zero, List.set_cons_succ])
        refine G_take (i := 1) (oi := { dst := some 41, op := Op.load 131 (Operand.tmp 2), type := 131, pos := _, after := #[], guard := none }) (v := .pointer (some ⟨rb, 0, none⟩)) rfl (by kernel_rfl) (by kernel_rfl) (by kernel_rfl) (by kernel_rfl) (fun _ _ _ h => h) (by rfl) (fun u hu => ?_) hS0 ?_
        · (try dsimp only at hu); go_simp
        (try simp only [Act.put, List.setIfInBounds_toArray, List.set_cons_zero, List.set_cons_succ])
        refine G_take (i := 2) (oi := { dst := some 42, op := Op.nilCheck (Operand.tmp 41), type := 0, pos := _, after := #[{ on := 1, ground := Ground.data }], guard := none }) (v := .pointer (some ⟨rb, 0, none⟩)) rfl (by kernel_rfl) (by kernel_rfl) (by kernel_rfl) (by kernel_rfl) (fun _ _ _ h => h) (by rfl) (fun u hu => ?_) hS0 ?_
        · (try dsimp only at hu); go_simp
        (try simp only [Act.put, List.setIfInBounds_toArray, List.set_cons_zero, List.set_cons_succ])
        refine G_take (i := 3) (oi := { dst := some 43, op := Op.fieldAddr 117 (Operand.tmp 42) 1, type := 0, pos := _, after := #[{ on := 2, ground := Ground.data }], guard := none }) (v := .pointer (some ⟨rb, 1, none⟩)) rfl (by kernel_rfl) (by kernel_rfl) (by kernel_rfl) (by kernel_rfl) (fun _ _ _ h => h) (by rfl) (fun u hu => ?_) hS0 ?_
        · (try dsimp only at hu); go_simp
        (try simp only [Act.put, List.setIfInBounds_toArray, List.set_cons_zero, List.set_cons_succ])
        refine G_take (i := 4) (oi := { dst := some 44, op := Op.load 71 (Operand.tmp 43), type := 71, pos := _, after := #[{ on := 3, ground := Ground.data }], guard := none }) (v := .slice pa (qp P pre).length pc) rfl (by kernel_rfl) (by kernel_rfl) (by kernel_rfl) (by kernel_rfl) (fun _ _ _ h => h) (by rfl) (fun u hu => ?_) hS0 ?_
        · (try dsimp only at hu); go_simp
        (try simp only [Act.put, List.setIfInBounds_toArray, List.set_cons_zero, List.set_cons_succ])
        refine G_step (i := 5) (o := { dst := some 45, op := Op.load 79 (Operand.tmp 7), type := 79, pos := _, after := #[], guard := none }) (by kernel_rfl) rfl (fun K' hK => ?_)
        go_simp
        refine hK.out _ _ (fun _ => hS0) (fun _ => ?_)
        (try simp only [Act.put, List.setIfInBounds_toArray, List.set_cons_zero, List.set_cons_succ])
        refine G_step (i := 6) (o := { dst := some 46, op := Op.buildSlice 71 1 #[(0, Operand.tmp 45)], type := 71, pos := _, after := #[{ on := 5, ground := Ground.data }], guard := none }) (by kernel_rfl) rfl (fun K' hK => ?_)
        go_simp
        refine hK.out _ _ (fun _ => hS1) (fun _ => ?_)
        (try simp only [Act.put, List.setIfInBounds_toArray, List.set_cons_zero, List.set_cons_succ])
        refine G_step (i := 7) (o := { dst := some 47, op := Op.call { callee := Callee.builtin Builtin.append, args := #[Operand.tmp 44, Operand.tmp 46], argTypes := #[71, 71] }, type := 71, pos := _, after := #[{ on := 4, ground := Ground.data }, { on := 6, ground := Ground.data }], guard := none }) (by kernel_rfl) rfl (fun K' hK => ?_)
        refine step_append_lies _ (by rfl) _ _ _ (by rfl) 0 79 i7 _ 2 16 Tryd.underlying71 HJ.out.1 HJ.out.2.1 HJ.out.2.2.1 HJ.out.2.2.2 rfl (by omega) (.slice pa (qp P pre).length pc) (qp P pre).length (pcells (qp P pre)) (by rfl) ((HM2.out.alloc _).drew) ⟨w2.heap.size, 0, none⟩ 1 1 [.int .i64 ((x.1.1 : Nat) : Int), .int .i64 ((x.2.1 : Nat) : Int)] (by rfl) (by rfl) (World.news_of_block (w := (w2.alloc (.cells #[.int .i64 ((x.1.1 : Nat) : Int), .int .i64 ((x.2.1 : Nat) : Int)] 79)).drew) (cs := #[.int .i64 ((x.1.1 : Nat) : Int), .int .i64 ((x.2.1 : Nat) : Int)]) (t := 79) (fr := (0, 0)) hUb) (by simp [Value.oneCell']) (by omega) (by unfold maxLen; omega) (by omega) (Nat.zero_le _) _ rfl ?_
        intro g cap w4 hown4 hgrow4 hat4 hlt4
        have hgr : (w2.alloc (.cells #[.int .i64 ((x.1.1 : Nat) : Int), .int .i64 ((x.2.1 : Nat) : Int)] 79)).grownBy w4 (Value.slice pa (qp P pre).length pc).ownBlock := ⟨hgrow4.os, hgrow4.tape, hgrow4.output, hgrow4.size, hgrow4.block⟩
        obtain ⟨hrb4, HG⟩ := HRi.out.add HC.out hg2' hm2 hnm (v6 := .slice (some ⟨g, 0, none⟩) ((qp P pre).length + 1) cap) hown4 hgr (hat4.imp (fun e => by rw [e]; simp [Value.ownBlock]) (fun e => by rw [e]; simp [Value.ownBlock]))
        have hb04 : w4.cell? ⟨w.heap.size, 0, none⟩ = some (.pointer (some ⟨rb, 0, none⟩)) := (World.cell?_of_block (w := w2.alloc (.cells #[.int .i64 ((x.1.1 : Nat) : Int), .int .i64 ((x.2.1 : Nat) : Int)] 79)) (hgr.block _ (by have := hg2'.size; simp; omega) (fun e => by rcases HRi.out.pvn HC.out e.symm with h3 | h3 <;> dsimp only at h3 <;> omega))).trans (cell_alloc1 _ x0)
        have hb14 : w4.cell? ⟨rb, 1, none⟩ = some (.slice pa (qp P pre).length pc) := cell_of_cells hrb4 rfl
        have hf14 : w4.frozen? ⟨rb, 1, none⟩ = false := by simp [World.frozen?, hrb4]
        clear hown4 hgrow4 hgr hat4 hlt4 hUb hrb4 x0 x1 x2 x3
        refine hK.out _ _ (fun _ => ⟨hb04, hb14⟩) (fun _ => ?_)
        (try simp only [Act.put, List.setIfInBounds_toArray, List.set_cons_zero, List.set_cons_succ])
        refine G_step (i := 8) (o := { dst := some 48, op := Op.nilCheck (Operand.tmp 40), type := 0, pos := _, after := #[{ on := 0, ground := Ground.data }, { on := 0, ground := Ground.phase }, { on := 1, ground := Ground.phase }, { on := 2, ground := Ground.phase }, { on := 3, ground := Ground.phase }, { on := 4, ground := Ground.phase }, { on := 5, ground := Ground.phase }, { on := 6, ground := Ground.phase }, { on := 7, ground := Ground.phase }], guard := none }) (by kernel_rfl) rfl (fun K' hK => ?_)
        go_simp
        refine hK.out _ _ (fun _ => ⟨hb04, hb14⟩) (fun _ => ?_)
        (try simp only [Act.put, List.setIfInBounds_toArray, List.set_cons_zero, List.set_cons_succ])
        refine G_step (i := 9) (o := { dst := some 49, op := Op.fieldAddr 117 (Operand.tmp 48) 1, type := 0, pos := _, after := #[{ on := 8, ground := Ground.data }, { on := 0, ground := Ground.phase }, { on := 1, ground := Ground.phase }, { on := 2, ground := Ground.phase }, { on := 3, ground := Ground.phase }, { on := 4, ground := Ground.phase }, { on := 5, ground := Ground.phase }, { on := 6, ground := Ground.phase }, { on := 7, ground := Ground.phase }], guard := none }) (by kernel_rfl) rfl (fun K' hK => ?_)
        go_simp
        refine hK.out _ _ (fun _ => ⟨hb04, hb14⟩) (fun _ => ?_)
        (try simp only [Act.put, List.setIfInBounds_toArray, List.set_cons_zero, List.set_cons_succ])
        refine G_step (i := 10) (o := { dst := none, op := Op.store 71 (Operand.tmp 49) (Operand.tmp 47), type := 0, pos := _, after := #[{ on := 9, ground := Ground.data }, { on := 7, ground := Ground.data }, { on := 7, ground := Ground.chain }, { on := 0, ground := Ground.phase }, { on := 1, ground := Ground.phase }, { on := 2, ground := Ground.phase }, { on := 3, ground := Ground.phase }, { on := 4, ground := Ground.phase }, { on := 5, ground := Ground.phase }, { on := 6, ground := Ground.phase }, { on := 7, ground := Ground.phase }], guard := none }) (by kernel_rfl) rfl (fun K' hK => ?_)
        go_simp
        refine hK.out _ _ (fun h => absurd h (by decide)) (fun _ => ?_)
        (try simp only [Act.put, List.setIfInBounds_toArray, List.set_cons_zero, List.set_cons_succ])
        refine G_done (by kernel_rfl) ?_ _
        dsimp only [Exit.then]
        have HR5 := hid HG.out.1
        have HK5 := hid HG.out.2
        have yd5 : (w4.setCell ⟨rb, 1, none⟩ (.slice (some ⟨g, 0, none⟩) ((qp P pre).length + 1) cap)).cell? ⟨w.heap.size + 1 + 1 + 1, 0, none⟩ = some (.slice la (cs (nms (qp P pre) pre)).length lc) := cell_of_cells HG.out.1.lst rfl
        generalize w4.setCell ⟨rb, 1, none⟩ (.slice (some ⟨g, 0, none⟩) ((qp P pre).length + 1) cap) = w5 at *
        have e1 : qp P (pre ++ [x]) = qp P pre ++ [prn x] := by rw [qp_snoc, nAdd, if_neg hk]
        have e2 : nms (qp P pre ++ [prn x]) (pre ++ [x]) = nms (qp P pre) pre ++ [(qp P pre).length] := by rw [nms_snoc, ix_new hk, nms_pre (List.prefix_append _ _) (qp_mem P pre)]
        have HE := hid (And.intro e1 e2)
        have hq2 : (qp P (pre ++ [x])).length ≤ 2048 := by rw [e1, List.length_append, List.length_singleton]; omega
        clear hb04 hb14 hf14 HG yd hS0 hS1 e1 e2 hs1'
        gi_wp2_with (gi_at_builtin; refine wpListIn_append_own_at _ rfl _ _ 22 rfl w1.heap.size 3 i0 (.int .i64 0) 1 8 Tryd.underlying22 HI.out.1 HI.out.2.1 HI.out.2.2.1 HI.out.2.2.2 rfl (by decide) _ _ _ rfl (HR5.out.own.alloc _) ⟨w5.heap.size, 0, none⟩ 1 1 [.int .i64 ((qp P pre).length : Int)] rfl rfl (cell_one_new w5 _ _) (ints_oneCell .i64 [((qp P pre).length : Int)]) (by unfold maxLen; omega) (by omega) (by have := HR5.out.sz; simp; omega) ?_; intro v' w7 hown' hgrow hnil hloc; obtain ⟨g1, g2, G⟩ := HR5.out.num HC.out (k := (qp P pre).length) hown' ⟨hgrow.os, hgrow.tape, hgrow.output, hgrow.size, hgrow.block⟩ hloc; replace g1 : w7.cell? ⟨w.heap.size + 1 + 1 + 1, 0, none⟩ = some _ := g1; replace g2 : w7.frozen? ⟨w.heap.size + 1 + 1 + 1, 0, none⟩ = false := g2; obtain ⟨la2, lc2, hlv2, _⟩ := owns_row' hown'; subst hlv2; clear hown' hgrow hnil hloc)
        have hfin : (qp P (pre ++ [x])).length ≤ 2048 ∧ ∃ pv' lv D', Ri w w1 rb mb pv (qp P (pre ++ [x])) (nms (qp P (pre ++ [x])) (pre ++ [x])) (w7.setCell ⟨w.heap.size + 3, 0, none⟩ (.slice la2 ((cs (nms (qp P pre) pre)).length + 1) lc2)) pv' lv D' := by
          rw [HE.out.1] at hq2 ⊢
          rw [HE.out.2]
          exact ⟨hq2, _, _, _, G.out.1⟩
        exact ⟨kf_trans HK5.out G.out.2, fun b hb => (G.out.1.fr.block b (HBS.out b hb).1 (HBS.out b hb).2).trans (HRi.out.fr.block b (HBS.out b hb).1 (HBS.out b hb).2).symm, hid hfin⟩
  case done =>
    rintro Dd xs W hD rfl hI hK
    obtain ⟨h1, pv', lv, D', h2⟩ := hI.out
    obtain ⟨la, lc, hlv, _⟩ := owns_row h2.own
    have yb : W.heap[w.heap.size + 1]? = some (.cells #[.slice none 0 0] 22) := (h2.old _ (by omega) (by omega)).trans HN.out.2.1
    have yc : W.heap[w.heap.size + 1 + 1]? = some (.cells #[.int .i64 0] 29) := (h2.old _ (by omega) (by omega)).trans HN.out.2.2
    have yd : W.cell? ⟨w.heap.size + 1 + 1 + 1, 0, none⟩ = some lv := cell_of_cells h2.lst rfl
    have y1 : W.cell? ⟨w.heap.size + 1, 0, none⟩ = some (.slice none 0 0) := cell_of_cells yb rfl
    have y2 : W.cell? ⟨w.heap.size + 1 + 1, 0, none⟩ = some (.int .i64 0) := cell_of_cells yc rfl
    have f1 : W.frozen? ⟨w.heap.size + 1, 0, none⟩ = false := by simp [World.frozen?, yb]
    have f2 : W.frozen? ⟨w.heap.size + 1 + 1, 0, none⟩ = false := by simp [World.frozen?, yc]
    subst hlv
    obtain ⟨X, hX⟩ : ∃ X, (W.setCell ⟨w.heap.size + 1, 0, none⟩ (.slice la (cs (nms (qp P xs) xs)).length lc)).setCell ⟨w.heap.size + 1 + 1, 0, none⟩ (.int .i64 0) = X := ⟨_, rfl⟩
    obtain ⟨hKX, hfin⟩ := h2.fin HC.out hD hK rfl _ _ _ hX y1 y2
    have HF := hid (And.intro hfin (And.intro h1 (And.intro h2.loc h2.ap)))
    clear h2 h1 hfin hI yb yc
    go_wp2
    refine ⟨by simp, .inl ⟨_, _, rfl, run_takeDeferred hKX, ?_⟩⟩
    obtain ⟨a1, a2, a3, a4, a5⟩ := HF.out.1 _ (grownBy_putObj' X Dd (.deferred none))
    refine ⟨.tuple #[.slice la (cs (nms (qp P xs) xs)).length lc, .int .i64 0], by simp [results, Tryd.f76, go_sem, a1, a2], ?_⟩
    refine Or.inl ⟨HF.out.2.1, _, pv', D', rfl, a3, a4, a5, HF.out.2.2.1.imp id (fun e b hb => by have := e b hb; have := HS1.out; omega), HF.out.2.2.2⟩
  case stop =>
    rintro Dd c pre W hD hp ⟨rfl, hI⟩ hK
    obtain ⟨h1, h2, h3, h4, h5⟩ := hI.out
    have HF := hid (And.intro h1 h5)
    clear hI h1 h5
    refine wpIn_wide.2 ?_
    go_wp2
    refine ⟨by simp, .inl ⟨_, _, rfl, run_takeDeferred hK, ?_⟩⟩
    have hg5 := grownBy_putObj' W Dd (.deferred none)
    have a1 := cell_kept h2 hg5 (fun r e => by cases e; exact ⟨_, hK, rfl⟩)
    have a2 := cell_kept h3 hg5 (fun r e => by cases e; exact ⟨_, hK, rfl⟩)
    refine ⟨.tuple #[.slice none 0 0, .int .i64 2], by simp [results, Tryd.f76, go_sem, a1, a2], ?_⟩
    exact Or.inr ⟨Nat.lt_of_lt_of_le HF.out.2 (qp_pre hp).length_le, rfl, HF.out.1.grown hg5 (fun b e hb => by cases e; have := HS1.out; omega)⟩
  · have hlt := (Array.getElem?_eq_some_iff.1 h2).1
    have hg := grownBy_putObj' W l o'
    have := (HBS.out b hb).1
    have := HS1.out
    exact hg.block _ (by omega) (fun e => by rw [Option.some.injEq] at e; omega)

end Go.Proofs.YtdncjikmknkkpaaDoor
