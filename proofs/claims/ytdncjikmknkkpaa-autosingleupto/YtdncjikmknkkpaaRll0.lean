/- The roll's list: what it has in memory while pairs come. -/
import Derived.Maps.OwnIn
import Derived.Test.YtdncjikmknkkpaaOnc
import Derived.Test.YtdncjikmknkkpaaPrd
namespace Go.Proofs.Ytdncjikmknkkpaa
open Go.RowKit Go.Shelf Go.Maps

theorem map_of_block {w w' : World} {k : TypeId} {R : Value → Option (DataW Unit × List MemPlace)} {b n : Nat} {D : DataW Unit} (h : w.ownsMap Try.prog k R b n D) (e : w'.heap[b]? = w.heap[b]?) : w'.ownsMap Try.prog k R b n D := by
  obtain ⟨es, clock, hb, r⟩ := h
  exact ⟨es, clock, e.trans hb, r⟩
theorem map_lt {w : World} {k : TypeId} {R : Value → Option (DataW Unit × List MemPlace)} {b n : Nat} {D : DataW Unit} (h : w.ownsMap Try.prog k R b n D) : ∃ es c, w.heap[b]? = some (.map es c) := by
  obtain ⟨es, clock, hb, r⟩ := h
  exact ⟨es, clock, hb⟩
theorem owns_blk {w : World} {base : Nat} {e : TypeId} {size : Nat} {v : Value} {n : Nat} {xs : List Value} (h : w.ownsRow base e size v n xs) {b : Nat} (hb : v.ownBlock = some b) : ∃ c z, w.heap[b]? = some (.cells c e z) := by
  rcases h.2 with ⟨rfl, h0⟩ | ⟨g, cap, cur, rfl, hb2, hg, _⟩
  · simp [Value.ownBlock] at hb
  · simp [Value.ownBlock] at hb
    subst hb
    exact ⟨_, _, hg⟩
theorem gb_set (w : World) (a : Addr) (v : Value) : w.grownBy (w.setCell a v) (some a.block) :=
  ⟨rfl, rfl, rfl, by simp, fun k _ hne => Below.heap_setCell _ _ _ _ (fun e => hne (by rw [e]))⟩
theorem owns_kept {w w' : World} {base : Nat} {e : TypeId} {size : Nat} {v : Value} {n : Nat} {xs : List Value} {row : Option Nat} (h : w.ownsRow base e size v n xs) (hg : w.grownBy w' row) (hr : ∀ b, v.ownBlock = some b → row ≠ some b) : w'.ownsRow base e size v n xs :=
  h.kept hg (by
    cases hv : v.ownBlock with
    | none => exact Or.inl rfl
    | some b => exact Or.inr (fun ee => hr b hv ee.symm))

/-- The roll's blocks are apart. -/
theorem Rol.apart {w : World} {rb mb : Nat} {pv : Value} {P : List (Nat × Nat)} {D : DataW Unit} (h : Rol w rb mb pv P D) : rb ≠ mb ∧ (∀ b, pv.ownBlock = some b → b ≠ rb ∧ b ≠ mb) ∧ rb < w.heap.size ∧ mb < w.heap.size := by
  obtain ⟨es, c, hm⟩ := map_lt h.map
  have hr := h.blk
  refine ⟨fun e => ?_, fun b hb => ?_, (Array.getElem?_eq_some_iff.1 hr).1, (Array.getElem?_eq_some_iff.1 hm).1⟩
  · rw [e, hm] at hr
    cases hr
  · obtain ⟨cc, z, hc⟩ := owns_blk h.own hb
    refine ⟨fun e => ?_, fun e => ?_⟩
    · rw [e, hr] at hc
      cases hc
    · rw [e, hm] at hc
      cases hc

theorem Rol.of {w w' : World} {rb mb : Nat} {pv : Value} {P : List (Nat × Nat)} {D : DataW Unit} (h : Rol w rb mb pv P D) (h1 : w'.heap[rb]? = w.heap[rb]?) (h2 : w'.heap[mb]? = w.heap[mb]?) (h3 : w'.ownsRow 0 48 2 pv P.length (pcells P)) : Rol w' rb mb pv P D :=
  ⟨h1.trans h.blk, map_of_block h.map h2, h.nmp, h3⟩
theorem Rol.below {w w' : World} {rb mb : Nat} {pv : Value} {P : List (Nat × Nat)} {D : DataW Unit} (h : Rol w rb mb pv P D) (hb : Below w.heap.size w w') : Rol w' rb mb pv P D :=
  h.of (hb.block _ h.apart.2.2.1) (hb.block _ h.apart.2.2.2) (owns_below h.own hb)

/-- While pairs come: w is the world of the call, w1 that of the loop. -/
structure Ri (w w1 : World) (rb mb : Nat) (pv : Value) (Q : List (Nat × Nat)) (nums : List Nat) (W : World) (pv' lv : Value) (D' : DataW Unit) : Prop where
  rol : Rol W rb mb pv' Q D'
  old : ∀ b, w.heap.size ≤ b → b < w.heap.size + 3 → W.heap[b]? = w1.heap[b]?
  lst : W.heap[w.heap.size + 3]? = some (.cells #[lv] 22)
  own : W.ownsRow w1.heap.size 3 1 lv (cs nums).length (vals (cs nums))
  fr : Fr (rex rb mb pv) w W
  sz : w1.heap.size ≤ W.heap.size
  loc : pv'.ownBlock = pv.ownBlock ∨ ∀ b, pv'.ownBlock = some b → w1.heap.size ≤ b
  ap : ∀ b, lv.ownBlock = some b → pv'.ownBlock ≠ some b

/-- What is so at the call. -/
structure Rcl (w w1 : World) (rb mb : Nat) (pv : Value) : Prop where
  s1 : w1.heap.size = w.heap.size + 4
  rb : rb < w.heap.size
  mb : mb < w.heap.size
  pv : ∀ b, pv.ownBlock = some b → b < w.heap.size

theorem Ri.pvn {w w1 : World} {rb mb : Nat} {pv : Value} {Q : List (Nat × Nat)} {nums : List Nat} {W : World} {pv' lv : Value} {D' : DataW Unit} (c : Rcl w w1 rb mb pv) (h : Ri w w1 rb mb pv Q nums W pv' lv D') {b : Nat} (hb : pv'.ownBlock = some b) : (b < w.heap.size ∧ pv.ownBlock = some b) ∨ w1.heap.size ≤ b := by
  rcases h.loc with e | e
  · rw [e] at hb
    exact Or.inl ⟨c.pv b hb, hb⟩
  · exact Or.inr (e b hb)

/-- Book-keeping, and new blocks: nothing of it is touched. -/
theorem Ri.keep {w w1 : World} {rb mb : Nat} {pv : Value} {Q : List (Nat × Nat)} {nums : List Nat} {W W' : World} {pv' lv : Value} {D' : DataW Unit} {row : Option Nat} (c : Rcl w w1 rb mb pv) (h : Ri w w1 rb mb pv Q nums W pv' lv D') (hg : W.grownBy W' row)
    (hr : ∀ r, row = some r → w1.heap.size ≤ r ∧ ∃ o : Obj, W.heap[r]? = some o ∧ o.isCells = false) : Ri w w1 rb mb pv Q nums W' pv' lv D' := by
  have s1 := c.s1
  have hne : ∀ k, k < w1.heap.size → some k ≠ row := fun k hk e => by have := (hr k e.symm).1; omega
  have hlt : ∀ k, k < w1.heap.size → W'.heap[k]? = W.heap[k]? := fun k hk => hg.block k (Nat.lt_of_lt_of_le hk h.sz) (hne k hk)
  have hcl : ∀ {b : Nat} {cc : Array Value} {e : TypeId} {z : Nat × Nat}, W.heap[b]? = some (.cells cc e z) → row ≠ some b := fun {b cc e z} hb e2 => by
    obtain ⟨_, o, ho, hc⟩ := hr b e2
    rw [hb] at ho
    cases ho
    simp [Obj.isCells] at hc
  have hfr := h.fr
  refine ⟨h.rol.of (hlt _ (by have := c.rb; omega)) (hlt _ (by have := c.mb; omega)) (owns_kept h.rol.own hg (fun b hb => ?_)), fun b h1 h2 => (hlt b (by omega)).trans (h.old b h1 h2), (hlt _ (by omega)).trans h.lst, owns_kept h.own hg (fun b hb => ?_), ?_, Nat.le_trans h.sz hg.size, h.loc, h.ap⟩
  · obtain ⟨cc, z, hc⟩ := owns_blk h.rol.own hb
    exact hcl hc
  · obtain ⟨cc, z, hc⟩ := owns_blk h.own hb
    exact hcl hc
  · exact hfr.grown hg (fun b e hb => by have := (hr b e).1; omega)

theorem kf_grown {B : Nat} {W W' : World} {row : Option Nat} (hg : W.grownBy W' row) (hr : ∀ b, row = some b → B ≤ b → ∃ c t z, W.heap[b]? = some (.cells c t z)) : KeepsFrom B W W' :=
  ⟨hg.size, fun k o hk h0 hc => (hg.block k (Array.getElem?_eq_some_iff.1 h0).1 (fun e => by
    obtain ⟨c, t, z, h⟩ := hr k e.symm hk
    rw [h0] at h
    cases h
    simp [Obj.isCells] at hc)).trans h0⟩
theorem kf_trans {B : Nat} {a b c : World} (h : KeepsFrom B a b) (k : KeepsFrom B b c) : KeepsFrom B a c :=
  ⟨Nat.le_trans h.1 k.1, fun i o hi h0 hc => k.2 i o hi (h.2 i o hi h0 hc) hc⟩

/-- One more number. -/
theorem Ri.num {w w1 : World} {rb mb : Nat} {pv : Value} {Q : List (Nat × Nat)} {nums : List Nat} {W w7 : World} {pv' lv lv' : Value} {D' : DataW Unit} {o : Obj} {k : Nat} (c : Rcl w w1 rb mb pv) (h : Ri w w1 rb mb pv Q nums W pv' lv D')
    (hown : w7.ownsRow w1.heap.size 3 1 lv' ((cs nums).length + 1) (vals (cs nums) ++ [.int .i64 (k : Int)])) (hgrow : (W.alloc o).grownBy w7 lv.ownBlock) (hloc : lv'.ownBlock = lv.ownBlock ∨ lv'.ownBlock = some (W.alloc o).heap.size) :
    w7.cell? ⟨w.heap.size + 3, 0, none⟩ = some lv ∧ w7.frozen? ⟨w.heap.size + 3, 0, none⟩ = false ∧ Hid (Ri w w1 rb mb pv Q (nums ++ [k]) (w7.setCell ⟨w.heap.size + 3, 0, none⟩ lv') pv' lv' D' ∧ KeepsFrom w1.heap.size W (w7.setCell ⟨w.heap.size + 3, 0, none⟩ lv')) := by
  have s1 := c.s1
  have hg := (World.grownBy_alloc W o lv.ownBlock).trans hgrow
  have hne : ∀ b, b < w1.heap.size → some b ≠ lv.ownBlock := fun b hb e => by have := (h.own.lt b e.symm).1; omega
  have hlt : ∀ b, b < w1.heap.size → w7.heap[b]? = W.heap[b]? := fun b hb => hg.block b (Nat.lt_of_lt_of_le hb h.sz) (hne b hb)
  have hb3 : w7.heap[w.heap.size + 3]? = some (.cells #[lv] 22) := (hlt _ (by omega)).trans h.lst
  have gs := gb_set w7 ⟨w.heap.size + 3, 0, none⟩ lv'
  have hset : ∀ b, b < w7.heap.size → b ≠ w.heap.size + 3 → (w7.setCell ⟨w.heap.size + 3, 0, none⟩ lv').heap[b]? = w7.heap[b]? := fun b hb hn => gs.block b hb (fun e => hn (Option.some.inj e))
  have hsz : w1.heap.size ≤ w7.heap.size := Nat.le_trans h.sz hg.size
  have hlt2 : ∀ b, b < w1.heap.size → b ≠ w.heap.size + 3 → (w7.setCell ⟨w.heap.size + 3, 0, none⟩ lv').heap[b]? = W.heap[b]? := fun b hb hn => (hset b (by omega) hn).trans (hlt b hb)
  refine ⟨cell_of_cells hb3 rfl, by simp [World.frozen?, hb3], ⟨⟨h.rol.of (hlt2 _ (by have := c.rb; omega) (by have := c.rb; omega)) (hlt2 _ (by have := c.mb; omega) (by have := c.mb; omega)) ?_, fun b h1 h2 => (hlt2 b (by omega) (by omega)).trans (h.old b h1 h2), ?_, ?_, ?_, by rw [World.size_setCell]; exact hsz, h.loc, fun b hb hb2 => ?_⟩, kf_trans (kf_grown hg (fun b e _ => ?_)) (kf_grown gs (fun b e hb => ?_))⟩⟩
  · refine owns_kept (owns_kept h.rol.own hg (fun b hb e => h.ap b e hb)) gs (fun b hb e => ?_)
    have e' := Option.some.inj e
    dsimp only at e'
    rcases h.pvn c hb with h1 | h1 <;> omega
  · rw [blk_setCell hb3]; rfl
  · have e : (cs (nums ++ [k])).length = (cs nums).length + 1 := by rw [cs_snoc]; simp
    rw [e, cs_snoc, ← vals_snoc]
    exact ownsRow_setCell_below hown (by show w.heap.size + 3 < _; omega) _
  · exact (h.fr.grown hg (fun b e hb => by have := (h.own.lt b e).1; omega)).setCell (fun hb => by dsimp only at hb; omega) _
  · rcases hloc with e | e
    · exact h.ap b (by rw [← e]; exact hb) hb2
    · rw [e, Option.some.injEq, World.size_alloc] at hb
      have := (h.rol.own.lt b hb2).2
      omega
  · obtain ⟨cc, z, hc⟩ := owns_blk h.own e
    exact ⟨_, _, _, hc⟩
  · have e' := Option.some.inj e
    dsimp only at e'
    omega

/-- One pair more: the map, then the pairs. -/
theorem Ri.map {w w1 : World} {rb mb : Nat} {pv : Value} {Q : List (Nat × Nat)} {nums : List Nat} {W w2 : World} {pv' lv : Value} {D' : DataW Unit} (c : Rcl w w1 rb mb pv) (h : Ri w w1 rb mb pv Q nums W pv' lv D') (hg : W.grownBy w2 (some mb)) :
    w2.heap[rb]? = W.heap[rb]? ∧ w2.ownsRow 0 48 2 pv' Q.length (pcells Q) ∧ (∀ b, w.heap.size ≤ b → b < W.heap.size → w2.heap[b]? = W.heap[b]?) ∧ w2.ownsRow w1.heap.size 3 1 lv (cs nums).length (vals (cs nums)) ∧ Fr (rex rb mb pv) w w2 := by
  have ha := h.rol.apart
  have s1 := c.s1
  refine ⟨hg.block rb ha.2.2.1 (fun e => ha.1 (Option.some.inj e)), owns_kept h.rol.own hg (fun b hb e => (ha.2.1 b hb).2 (Option.some.inj e).symm), fun b h1 h2 => hg.block b h2 (fun e => by have := Option.some.inj e; have := c.mb; omega), owns_kept h.own hg (fun b hb e => ?_), h.fr.grown hg (fun b e _ => Or.inr (Or.inl (Option.some.inj e).symm))⟩
  have h1 := (h.own.lt b hb).1
  have := Option.some.inj e
  have := c.mb
  omega

theorem Ri.add {w w1 : World} {rb mb : Nat} {pv : Value} {Q : List (Nat × Nat)} {nums : List Nat} {W w2 w4 : World} {pv' lv v6 : Value} {D' D2 : DataW Unit} {o : Obj} {p : Nat × Nat} (c : Rcl w w1 rb mb pv) (h : Ri w w1 rb mb pv Q nums W pv' lv D') (hg : W.grownBy w2 (some mb))
    (hm : w2.ownsMap Try.prog 48 (plainElem Try.prog 3) mb (Q.length + 1) D2) (hn : Nmp (Q ++ [p]) D2)
    (hown : w4.ownsRow 0 48 2 v6 (Q.length + 1) (pcells Q ++ [.int .i64 ((p.1 : Nat) : Int), .int .i64 ((p.2 : Nat) : Int)])) (hgrow : (w2.alloc o).grownBy w4 pv'.ownBlock) (hloc : v6.ownBlock = pv'.ownBlock ∨ v6.ownBlock = some (w2.alloc o).heap.size) :
    w4.heap[rb]? = some (.cells #[.map (some mb), pv'] 70) ∧ Hid (Ri w w1 rb mb pv (Q ++ [p]) nums (w4.setCell ⟨rb, 1, none⟩ v6) v6 lv D2 ∧ KeepsFrom w1.heap.size W (w4.setCell ⟨rb, 1, none⟩ v6)) := by
  have s1 := c.s1
  have ha := h.rol.apart
  obtain ⟨hm1, hm2, hm3, hm4, hm5⟩ := h.map c hg
  have hg4 := (World.grownBy_alloc w2 o pv'.ownBlock).trans hgrow
  have hne : ∀ b, pv'.ownBlock = some b → b ≠ rb ∧ b ≠ mb := ha.2.1
  have hs2 : W.heap.size ≤ w2.heap.size := hg.size
  have hrb4 : w4.heap[rb]? = some (.cells #[.map (some mb), pv'] 70) := (hg4.block rb (Nat.lt_of_lt_of_le ha.2.2.1 hs2) (fun e => (hne rb e.symm).1 rfl)).trans (hm1.trans h.rol.blk)
  have gs := gb_set w4 ⟨rb, 1, none⟩ v6
  have hset : ∀ b, b < w4.heap.size → b ≠ rb → (w4.setCell ⟨rb, 1, none⟩ v6).heap[b]? = w4.heap[b]? := fun b hb hn => gs.block b hb (fun e => hn (Option.some.inj e))
  have hs4 : W.heap.size ≤ w4.heap.size := Nat.le_trans hs2 hg4.size
  have hmid : ∀ b, w.heap.size ≤ b → b < w1.heap.size → (w4.setCell ⟨rb, 1, none⟩ v6).heap[b]? = W.heap[b]? := fun b h1 h2 => by
    have hW := h.sz
    rw [hset b (by omega) (by have := c.rb; omega), hg4.block b (by omega) (fun e => by rcases h.pvn c e.symm with h3 | h3 <;> omega)]
    exact hm3 b h1 (by omega)
  refine ⟨hrb4, ⟨⟨⟨?_, ?_, hn, ?_⟩, fun b h1 h2 => (hmid b h1 (by omega)).trans (h.old b h1 h2), (hmid _ (by omega) (by omega)).trans h.lst, ?_, ?_, by rw [World.size_setCell]; exact Nat.le_trans h.sz hs4, ?_, fun b hb hb2 => ?_⟩, kf_trans (kf_trans (kf_grown hg (fun b e hb => ?_)) (kf_grown hg4 (fun b e _ => ?_))) (kf_grown gs (fun b e hb => ?_))⟩⟩
  · rw [blk_setCell hrb4]; rfl
  · have e : (Q ++ [p]).length = Q.length + 1 := by simp
    rw [e]
    refine map_of_block hm ?_
    have hmb : mb < w2.heap.size := Nat.lt_of_lt_of_le ha.2.2.2 hs2
    rw [hset mb (Nat.lt_of_lt_of_le hmb hg4.size) (Ne.symm ha.1)]
    exact hg4.block mb hmb (fun e => (hne mb e.symm).2 rfl)
  · have e : (Q ++ [p]).length = Q.length + 1 := by simp
    rw [e, ← pcells_snoc]
    refine owns_kept hown gs (fun b hb e2 => ?_)
    have e3 := Option.some.inj e2
    dsimp only at e3
    obtain ⟨cc, z, hc⟩ := owns_blk hown hb
    rw [← e3, hrb4] at hc
    cases hc
  · refine owns_kept (owns_kept hm4 hg4 (fun b hb e => h.ap b hb e)) gs (fun b hb e => ?_)
    have e3 := Option.some.inj e
    dsimp only at e3
    have h1 := (h.own.lt b hb).1
    have := c.rb
    omega
  · refine (hm5.grown hg4 (fun b e hb => ?_)).setCell (fun _ => Or.inl rfl) _
    rcases h.pvn c e with h3 | h3
    · exact Or.inr (Or.inr h3.2)
    · omega
  · rcases hloc with e | e
    · rw [e]; exact h.loc
    · refine Or.inr (fun b hb => ?_)
      rw [e, Option.some.injEq, World.size_alloc] at hb
      have := h.sz
      omega
  · rcases hloc with e | e
    · exact h.ap b hb (by rw [← e]; exact hb2)
    · rw [e, Option.some.injEq, World.size_alloc] at hb2
      have := (h.own.lt b hb).2
      omega
  · have := Option.some.inj e
    have := c.mb
    omega
  · obtain ⟨cc, z, hc⟩ := owns_blk hm2 e
    exact ⟨_, _, _, hc⟩
  · have e' := Option.some.inj e
    dsimp only at e'
    have := c.rb
    omega

/-- The map tells a pair's number. -/
theorem Rol.look {w : World} {rb mb : Nat} {pv : Value} {P : List (Nat × Nat)} {D : DataW Unit} (h : Rol w rb mb pv P D) {p : Nat × Nat} (hp : Sml p) :
    ∃ (c : Int) (z : Bool), (Instr.lookup 68 (.map (some mb)) (.agg #[.int .i64 ((p.1 : Nat) : Int), .int .i64 ((p.2 : Nat) : Int)]) true).run Try.prog w = .ok (.tuple #[.int .i64 c, .bool z]) w ∧ Hid ((z = true ↔ p ∈ P) ∧ (p ∈ P → c = ((ix p P : Nat) : Int))) := by
  obtain ⟨kl, hkl⟩ := prv_key hp
  have hz3 : (zeroValue 3).run Try.prog w = .ok (.int .i64 0) w := by kernel_rfl
  obtain ⟨v, ps, hrun, hv⟩ := h.map.look_ok Try.keyed Try.underlying68 hz3 (plainElem_int Try.underlying3 (by decide)) hkl
  obtain ⟨c, rfl, hc, _⟩ := plainElem_int_inv Try.underlying3 hv
  obtain ⟨h1, h2⟩ := h.nmp p kl hp hkl
  refine ⟨c, Maps.has D kl, hrun, h1, fun hm => ?_⟩
  have h3 := h2 hm (.lit (.int .i64 0))
  have h4 := congrArg Prod.fst hc
  simp only at h4
  rw [h3] at h4
  simp only [DataW.lit.injEq, Lit.int.injEq, true_and] at h4
  exact h4.symm

/-- A new pair goes into the map. -/
theorem Rol.store {w : World} {rb mb : Nat} {pv : Value} {P : List (Nat × Nat)} {D : DataW Unit} (h : Rol w rb mb pv P D) {p : Nat × Nat} (hp : Sml p) (hn : p ∉ P) (hl : P.length ≤ 2048) :
    ∃ w2 D2, (Instr.mapUpdate 68 (.map (some mb)) (.agg #[.int .i64 ((p.1 : Nat) : Int), .int .i64 ((p.2 : Nat) : Int)]) (.int .i64 ((P.length : Nat) : Int))).run Try.prog w = .ok () w2 ∧ w.grownBy w2 (some mb) ∧ w2.ownsMap Try.prog 48 (plainElem Try.prog 3) mb (P.length + 1) D2 ∧ Nmp (P ++ [p]) D2 := by
  obtain ⟨kl, hkl⟩ := prv_key hp
  have hwf : (Lit.int .i64 ((P.length : Nat) : Int)).wf = true := WalkArith.wf_i64 (by omega)
  obtain ⟨w3, hrun, hown, hg⟩ := h.map.update Try.keyed Try.underlying68 (by unfold maxLen; omega) hkl (plainElem_int Try.underlying3 hwf)
  exact ⟨w3, _, hrun, hg, hown, nmp_put h.nmp h.map.isMap hp hn hkl⟩

theorem nAdds_app {α : Type} [DecidableEq α] (l xs ys : List α) : nAdds l (xs ++ ys) = nAdds (nAdds l xs) ys := by
  unfold nAdds
  rw [List.foldl_append]

end Go.Proofs.Ytdncjikmknkkpaa

