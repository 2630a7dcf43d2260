/-    -/
import Derived.Maps.OwnSet
import Derived.Maps.OwnOps
import Derived.DeepKeys4
import Derived.Test.YtmdpbaobihdgkaaGreatDoorTcnJ
import Derived.Maps.OwnIn
/- A pair as a map's key; the numbers of pairs in a map. -/
/- paired: states with a number, handed over one by one. -/
/- The roll's list: what it has in memory while pairs come. -/
namespace Go.Proofs.YtmdpbaobihdgkaaGreatDoor
open Go.RowKit Go.Maps
theorem Tryz.laidP : laidOutB Tryz.prog = true := by kernel_rfl
theorem Tryz.row79 : (86 : TypeId) < Tryz.prog.types.size := of_decide_eq_true (by kernel_rfl)
theorem Tryz.cells86 : Tryz.prog.cellsOf 86 = 2 := by kernel_rfl
theorem Tryz.cells3p : Tryz.prog.cellsOf 3 = 1 := by kernel_rfl
theorem Tryz.wide79 : (match Tryz.prog.underlying 86 with | some (.array _ _) | some (.struct _) => true | _ => false) = true := by kernel_rfl
set_option maxRecDepth 100000 in
theorem Tryz.kLaw : Go.WideMaps.KeyLaw Tryz.prog 86 := deep_law_laid Tryz.laidP (m := 2) (by omega) Tryz.row79 (by kernel_rfl) Tryz.wide79
theorem Tryz.keyed : Keyed Tryz.prog 86 := Keyed.of_law Tryz.kLaw
theorem Tryz.keyT79 : Tryz.prog.keyType 86 = true := by kernel_rfl
def prv (p : Nat × Nat) : Value := .agg #[.int .i64 (p.1 : Nat), .int .i64 (p.2 : Nat)]
theorem prv_inj {p q : Nat × Nat} (h : prv p = prv q) : p = q := by
 obtain ⟨a, b⟩ := p
 obtain ⟨c, d⟩ := q
 simp [prv] at h
 obtain ⟨h1, h2⟩ := h
 have e1 : a = c := by omega
 have e2 : b = d := by omega
 rw [e1, e2]
def Sml (p : Nat × Nat) : Prop := p.1 < 4096 ∧ p.2 < 4096
theorem prv_key {p : Nat × Nat} (h : Sml p) : ∃ kl, keyOf Tryz.prog 86 (prv p) = some kl := by
 obtain ⟨a, b⟩ := p
 obtain ⟨h1, h2⟩ := h
 dsimp only at h1 h2
 have hsz : ∃ m, Tryz.prog.types.size = m + 1 := ⟨Tryz.prog.types.size - 1, by
  have : 0 < Tryz.prog.types.size := of_decide_eq_true (by kernel_rfl)
  omega⟩
 obtain ⟨m0, hm0⟩ := hsz
 have w1 : (Lit.int .i64 (a : Int)).wf = true := WalkArith.wf_i64 (by omega)
 have w2 : (Lit.int .i64 (b : Int)).wf = true := WalkArith.wf_i64 (by omega)
 unfold keyOf prv
 simp only [Tryz.underlying86]
 rw [if_pos (by simp [Tryz.keyT79, Value.formed, Tryz.underlying86, Tryz.cells86]), hm0]
 simp [Program.keyLits, Tryz.underlying86, Tryz.underlying3, Value.cells, Tryz.cells86, Tryz.cells3p, w1, w2]
def Nmp (P : List (Nat × Nat)) (D : DataW Unit) : Prop := ∀ p kl, Sml p → keyOf Tryz.prog 86 (prv p) = some kl → (Maps.has D kl = true ↔ p ∈ P) ∧ (p ∈ P → ∀ zd, D.atKey kl zd = .lit (.int .i64 ((ix p P : Nat) : Int)))
theorem nmp_start : Nmp [] (.map []) := fun p kl _ _ => ⟨by simp [Maps.has_eq], fun h => by cases h⟩
theorem nmp_put {P : List (Nat × Nat)} {D : DataW Unit} (h : Nmp P D) (hD : IsMap D) {q : Nat × Nat} (hq : Sml q) (hn : q ∉ P) {kq : Lit} (hk : keyOf Tryz.prog 86 (prv q) = some kq) : Nmp (P ++ [q]) (D.put kq (.lit (.int .i64 ((P.length : Nat) : Int)))) := by
 intro p kl hs hkl
 by_cases e : p = q
 ·subst e
  obtain rfl : kl = kq := by rw [hkl] at hk; exact Option.some.inj hk
  refine ⟨⟨fun _ => by simp, fun _ => has_put_same hD (Tryz.keyed.key hkl) _⟩, fun _ zd => ?_⟩
  rw [atKey_put_same hD (Tryz.keyed.key hkl), ix_new hn]
 ·have hne : kl ≠ kq := fun e2 => by
   subst e2
   exact e (prv_inj (Tryz.keyed.inj hkl hk))
  obtain ⟨h1, h2⟩ := h p kl hs hkl
  rw [has_put_other hne]
  refine ⟨h1.trans (by simp [e]), fun hmem zd => ?_⟩
  rw [atKey_put_other hne]
  have hpp : p ∈ P := by
   rcases List.mem_append.1 hmem with h3 | h3
   ·exact h3
   ·exact absurd (List.mem_singleton.1 h3) e
  rw [ix_app hpp]
  exact h2 hpp zd
def pcells (P : List (Nat × Nat)) : List Value := P.flatMap fun p => [.int .i64 ((p.1 : Nat) : Int), .int .i64 ((p.2 : Nat) : Int)]
theorem pcells_snoc (P : List (Nat × Nat)) (p : Nat × Nat) : pcells P ++ [.int .i64 ((p.1 : Nat) : Int), .int .i64 ((p.2 : Nat) : Int)] = pcells (P ++ [p]) := by simp [pcells]
theorem pcells_at : ∀ (P : List (Nat × Nat)) (i : Nat), i < P.length → (pcells P)[i * 2]? = some (.int .i64 ((nAt P i).1 : Nat)) ∧ (pcells P)[i * 2 + 1]? = some (.int .i64 ((nAt P i).2 : Nat))
 | [], i, h => absurd h (Nat.not_lt_zero _)
 | p :: P, 0, _ => by simp [pcells, nAt]
 | p :: P, i + 1, h => by
  obtain ⟨h1, h2⟩ := pcells_at P i (by simpa using h)
  have e : pcells (p :: P) = [.int .i64 ((p.1 : Nat) : Int), .int .i64 ((p.2 : Nat) : Int)] ++ pcells P := by simp [pcells]
  have e3 : nAt (p :: P) (i + 1) = nAt P i := by simp [nAt]
  rw [e, e3, show (i + 1) * 2 = i * 2 + 2 by omega, show i * 2 + 2 + 1 = (i * 2 + 1) + 2 by omega]
  exact ⟨by simpa using h1, by simpa using h2⟩
structure Fr (ex : Nat → Prop) (w w' : World) : Prop where
 os : w'.os = w.os
 tape : w'.tape = w.tape
 output : w'.output = w.output
 size : w.heap.size ≤ w'.heap.size
 block : ∀ b, b < w.heap.size → ¬ ex b → w'.heap[b]? = w.heap[b]?
theorem Fr.refl (ex : Nat → Prop) (w : World) : Fr ex w w := ⟨rfl, rfl, rfl, Nat.le_refl _, fun _ _ _ => rfl⟩
theorem Fr.of_below {ex : Nat → Prop} {w w' : World} (h : Below w.heap.size w w') : Fr ex w w' := ⟨h.os, h.tape, h.output, h.size, fun b hb _ => h.block b hb⟩
theorem Fr.trans {ex ey : Nat → Prop} {a b c : World} (h : Fr ex a b) (k : Fr ey b c) (he : ∀ x, x < a.heap.size → ey x → ex x) : Fr ex a c :=
 ⟨k.os.trans h.os, k.tape.trans h.tape, k.output.trans h.output, Nat.le_trans h.size k.size, fun x hx hn => (k.block x (Nat.lt_of_lt_of_le hx h.size) (fun e => hn (he x hx e))).trans (h.block x hx hn)⟩
theorem Fr.cell {ex : Nat → Prop} {w w' : World} (h : Fr ex w w') {p : Addr} {v : Value} (hn : ¬ ex p.block) (hc : w.cell? p = some v) : w'.cell? p = some v :=
 (World.cell?_of_block (h.block _ (World.block_lt_of_cell? _ _ hc) hn)).trans hc
theorem Fr.below {ex : Nat → Prop} {w w' u : World} (h : Fr ex w w') (hu : Below u.heap.size u w) (he : ∀ b, b < u.heap.size → ¬ ex b) : Below u.heap.size u w' :=
 ⟨h.os.trans hu.os, h.tape.trans hu.tape, h.output.trans hu.output, Nat.le_trans hu.size h.size, fun b hb => (h.block b (Nat.lt_of_lt_of_le hb hu.size) (he b hb)).trans (hu.block b hb)⟩
theorem Fr.grown {ex : Nat → Prop} {w w' w2 : World} {row : Option Nat} (h : Fr ex w w') (hg : w'.grownBy w2 row) (he : ∀ b, row = some b → b < w.heap.size → ex b) : Fr ex w w2 :=
 ⟨hg.os.trans h.os, hg.tape.trans h.tape, hg.output.trans h.output, Nat.le_trans h.size hg.size, fun x hx hn => (hg.block x (Nat.lt_of_lt_of_le hx h.size) (fun e => hn (he x e.symm hx))).trans (h.block x hx hn)⟩
theorem Fr.setCell {ex : Nat → Prop} {w w' : World} (h : Fr ex w w') {p : Addr} (he : p.block < w.heap.size → ex p.block) (v : Value) : Fr ex w (w'.setCell p v) :=
 ⟨h.os, h.tape, h.output, by simpa using h.size, fun x hx hn => (Below.heap_setCell _ _ _ _ (fun e => hn (by subst e; exact he hx))).trans (h.block x hx hn)⟩
structure Rol (w : World) (rb mb : Nat) (pv : Value) (P : List (Nat × Nat)) (D : DataW Unit) : Prop where
 blk : w.heap[rb]? = some (.cells #[.map (some mb), pv] 128)
 map : w.ownsMap Tryz.prog 86 (plainElem Tryz.prog 3) mb P.length D
 nmp : Nmp P D
 own : w.ownsRow 0 86 2 pv P.length (pcells P)
def rex (rb mb : Nat) (pv : Value) (b : Nat) : Prop := b = rb ∨ b = mb ∨ pv.ownBlock = some b
end Go.Proofs.YtmdpbaobihdgkaaGreatDoor
namespace Go.Proofs.YtmdpbaobihdgkaaGreatDoor
open Go.RowKit Go.Shelf
attribute [local go_sem] Oper.semAt_some
abbrev Pr := Fin 4096 × Fin 4096
def prn (x : Pr) : Nat × Nat := (x.1.1, x.2.1)
theorem prn_sml (x : Pr) : Sml (prn x) := ⟨x.1.2, x.2.2⟩
abbrev encP (x : Pr) : Array Value := #[.agg #[.int .i64 ((x.1.1 : Nat) : Int), .int .i64 ((x.2.1 : Nat) : Int)]]
end Go.Proofs.YtmdpbaobihdgkaaGreatDoor
namespace Go.Proofs.YtmdpbaobihdgkaaGreatDoor
open Go.RowKit Go.Shelf Go.Maps
theorem map_of_block {w w' : World} {k : TypeId} {R : Value → Option (DataW Unit × List MemPlace)} {b n : Nat} {D : DataW Unit} (h : w.ownsMap Tryz.prog k R b n D) (e : w'.heap[b]? = w.heap[b]?) : w'.ownsMap Tryz.prog k R b n D := by
 obtain ⟨es, clock, hb, r⟩ := h
 exact ⟨es, clock, e.trans hb, r⟩
theorem map_lt {w : World} {k : TypeId} {R : Value → Option (DataW Unit × List MemPlace)} {b n : Nat} {D : DataW Unit} (h : w.ownsMap Tryz.prog k R b n D) : ∃ es c, w.heap[b]? = some (.map es c) := by
 obtain ⟨es, clock, hb, r⟩ := h
 exact ⟨es, clock, hb⟩
theorem owns_blk {w : World} {base : Nat} {e : TypeId} {size : Nat} {v : Value} {n : Nat} {xs : List Value} (h : w.ownsRow base e size v n xs) {b : Nat} (hb : v.ownBlock = some b) : ∃ c z, w.heap[b]? = some (.cells c e z) := by
 rcases h.2 with ⟨rfl, h0⟩ | ⟨g, cap, cur, rfl, hb2, hg, _⟩
 ·simp [Value.ownBlock] at hb
 ·simp [Value.ownBlock] at hb
  subst hb
  exact ⟨_, _, hg⟩
theorem gb_set (w : World) (a : Addr) (v : Value) : w.grownBy (w.setCell a v) (some a.block) :=
 ⟨rfl, rfl, rfl, by simp, fun k _ hne => Below.heap_setCell _ _ _ _ (fun e => hne (by rw [e]))⟩
theorem owns_kept {w w' : World} {base : Nat} {e : TypeId} {size : Nat} {v : Value} {n : Nat} {xs : List Value} {row : Option Nat} (h : w.ownsRow base e size v n xs) (hg : w.grownBy w' row) (hr : ∀ b, v.ownBlock = some b → row ≠ some b) : w'.ownsRow base e size v n xs :=
 h.kept hg (by
  cases hv : v.ownBlock with
  | none => exact Or.inl rfl
  | some b => exact Or.inr (fun ee => hr b hv ee.symm))
theorem Rol.apart {w : World} {rb mb : Nat} {pv : Value} {P : List (Nat × Nat)} {D : DataW Unit} (h : Rol w rb mb pv P D) : rb ≠ mb ∧ (∀ b, pv.ownBlock = some b → b ≠ rb ∧ b ≠ mb) ∧ rb < w.heap.size ∧ mb < w.heap.size := by
 obtain ⟨es, c, hm⟩ := map_lt h.map
 have hr := h.blk
 refine ⟨fun e => ?_, fun b hb => ?_, (jq4.1 hr).1, (jq4.1 hm).1⟩
 ·rw [e, hm] at hr
  cases hr
 ·obtain ⟨cc, z, hc⟩ := owns_blk h.own hb
  refine ⟨fun e => ?_, fun e => ?_⟩
  ·rw [e, hr] at hc
   cases hc
  ·rw [e, hm] at hc
   cases hc
theorem Rol.of {w w' : World} {rb mb : Nat} {pv : Value} {P : List (Nat × Nat)} {D : DataW Unit} (h : Rol w rb mb pv P D) (h1 : w'.heap[rb]? = w.heap[rb]?) (h2 : w'.heap[mb]? = w.heap[mb]?) (h3 : w'.ownsRow 0 86 2 pv P.length (pcells P)) : Rol w' rb mb pv P D :=
 ⟨h1.trans h.blk, map_of_block h.map h2, h.nmp, h3⟩
theorem Rol.below {w w' : World} {rb mb : Nat} {pv : Value} {P : List (Nat × Nat)} {D : DataW Unit} (h : Rol w rb mb pv P D) (hb : Below w.heap.size w w') : Rol w' rb mb pv P D :=
 h.of (hb.block _ h.apart.2.2.1) (hb.block _ h.apart.2.2.2) (owns_below h.own hb)
structure Ri (w w1 : World) (rb mb : Nat) (pv : Value) (Q : List (Nat × Nat)) (nums : List Nat) (W : World) (pv' lv : Value) (D' : DataW Unit) : Prop where
 rol : Rol W rb mb pv' Q D'
 old : ∀ b, w.heap.size ≤ b → b < w.heap.size + 3 → W.heap[b]? = w1.heap[b]?
 lst : W.heap[w.heap.size + 3]? = some (.cells #[lv] 29)
 own : W.ownsRow w1.heap.size 3 1 lv (cs nums).length (vals (cs nums))
 fr : Fr (rex rb mb pv) w W
 sz : w1.heap.size ≤ W.heap.size
 loc : pv'.ownBlock = pv.ownBlock ∨ ∀ b, pv'.ownBlock = some b → w1.heap.size ≤ b
 ap : ∀ b, lv.ownBlock = some b → pv'.ownBlock ≠ some b
structure Rcl (w w1 : World) (rb mb : Nat) (pv : Value) : Prop where
 s1 : w1.heap.size = w.heap.size + 4
 rb : rb < w.heap.size
 mb : mb < w.heap.size
 pv : ∀ b, pv.ownBlock = some b → b < w.heap.size
theorem Ri.pvn {w w1 : World} {rb mb : Nat} {pv : Value} {Q : List (Nat × Nat)} {nums : List Nat} {W : World} {pv' lv : Value} {D' : DataW Unit} (c : Rcl w w1 rb mb pv) (h : Ri w w1 rb mb pv Q nums W pv' lv D') {b : Nat} (hb : pv'.ownBlock = some b) : (b < w.heap.size ∧ pv.ownBlock = some b) ∨ w1.heap.size ≤ b := by
 rcases h.loc with e | e
 ·rw [e] at hb
  exact Or.inl ⟨c.pv b hb, hb⟩
 ·exact Or.inr (e b hb)
theorem kf_grown {B : Nat} {W W' : World} {row : Option Nat} (hg : W.grownBy W' row) (hr : ∀ b, row = some b → B ≤ b → ∃ c t z, W.heap[b]? = some (.cells c t z)) : KeepsFrom B W W' :=
 ⟨hg.size, fun k o hk h0 hc => (hg.block k (jq4.1 h0).1 (fun e => by
  obtain ⟨c, t, z, h⟩ := hr k e.symm hk
  rw [h0] at h
  cases h
  simp [Obj.isCells] at hc)).trans h0⟩
theorem kf_trans {B : Nat} {a b c : World} (h : KeepsFrom B a b) (k : KeepsFrom B b c) : KeepsFrom B a c :=
 ⟨Nat.le_trans h.1 k.1, fun i o hi h0 hc => k.2 i o hi (h.2 i o hi h0 hc) hc⟩
theorem Ri.num {w w1 : World} {rb mb : Nat} {pv : Value} {Q : List (Nat × Nat)} {nums : List Nat} {W w7 : World} {pv' lv lv' : Value} {D' : DataW Unit} {o : Obj} {k : Nat} (c : Rcl w w1 rb mb pv) (h : Ri w w1 rb mb pv Q nums W pv' lv D')
  (hown : w7.ownsRow w1.heap.size 3 1 lv' ((cs nums).length + 1) (vals (cs nums) ++ [.int .i64 (k : Int)])) (hgrow : (W.alloc o).grownBy w7 lv.ownBlock) (hloc : lv'.ownBlock = lv.ownBlock ∨ lv'.ownBlock = some (W.alloc o).heap.size) :
  w7.cell? ⟨w.heap.size + 3, 0, none⟩ = some lv ∧ w7.frozen? ⟨w.heap.size + 3, 0, none⟩ = false ∧ Hid (Ri w w1 rb mb pv Q (nums ++ [k]) (w7.setCell ⟨w.heap.size + 3, 0, none⟩ lv') pv' lv' D' ∧ KeepsFrom w1.heap.size W (w7.setCell ⟨w.heap.size + 3, 0, none⟩ lv')) := by
 have s1 := c.s1
 have hg := (World.grownBy_alloc W o lv.ownBlock).trans hgrow
 have hne : ∀ b, b < w1.heap.size → some b ≠ lv.ownBlock := fun b hb e => by have := (h.own.lt b e.symm).1; omega
 have hlt : ∀ b, b < w1.heap.size → w7.heap[b]? = W.heap[b]? := fun b hb => hg.block b (Nat.lt_of_lt_of_le hb h.sz) (hne b hb)
 have hb3 : w7.heap[w.heap.size + 3]? = some (.cells #[lv] 29) := (hlt _ (by omega)).trans h.lst
 have gs := gb_set w7 ⟨w.heap.size + 3, 0, none⟩ lv'
 have hset : ∀ b, b < w7.heap.size → b ≠ w.heap.size + 3 → (w7.setCell ⟨w.heap.size + 3, 0, none⟩ lv').heap[b]? = w7.heap[b]? := fun b hb hn => gs.block b hb (fun e => hn (Option.some.inj e))
 have hsz : w1.heap.size ≤ w7.heap.size := Nat.le_trans h.sz hg.size
 have hlt2 : ∀ b, b < w1.heap.size → b ≠ w.heap.size + 3 → (w7.setCell ⟨w.heap.size + 3, 0, none⟩ lv').heap[b]? = W.heap[b]? := fun b hb hn => (hset b (by omega) hn).trans (hlt b hb)
 refine ⟨cell_of_cells hb3 rfl, by simp [World.frozen?, hb3], ⟨⟨h.rol.of (hlt2 _ (by have := c.rb; omega) (by have := c.rb; omega)) (hlt2 _ (by have := c.mb; omega) (by have := c.mb; omega)) ?_, fun b h1 h2 => (hlt2 b (by omega) (by omega)).trans (h.old b h1 h2), ?_, ?_, ?_, by rw [World.size_setCell]; exact hsz, h.loc, fun b hb hb2 => ?_⟩, kf_trans (kf_grown hg (fun b e _ => ?_)) (kf_grown gs (fun b e hb => ?_))⟩⟩
 ·refine owns_kept (owns_kept h.rol.own hg (fun b hb e => h.ap b e hb)) gs (fun b hb e => ?_)
  have e' := Option.some.inj e
  dsimp only at e'
  rcases h.pvn c hb with h1 | h1 <;> omega
 ·rw [blk_setCell hb3]; rfl
 ·have e : (cs (nums ++ [k])).length = (cs nums).length + 1 := by rw [cs_snoc]; simp
  rw [e, cs_snoc, ← vals_snoc]
  exact ownsRow_setCell_below hown (by show w.heap.size + 3 < _; omega) _
 ·exact (h.fr.grown hg (fun b e hb => by have := (h.own.lt b e).1; omega)).setCell (fun hb => by dsimp only at hb; omega) _
 ·rcases hloc with e | e
  ·exact h.ap b (by rw [← e]; exact hb) hb2
  ·rw [e, Option.some.injEq, World.size_alloc] at hb
   have := (h.rol.own.lt b hb2).2
   omega
 ·obtain ⟨cc, z, hc⟩ := owns_blk h.own e
  exact ⟨_, _, _, hc⟩
 ·have e' := Option.some.inj e
  dsimp only at e'
  omega
theorem Ri.map {w w1 : World} {rb mb : Nat} {pv : Value} {Q : List (Nat × Nat)} {nums : List Nat} {W w2 : World} {pv' lv : Value} {D' : DataW Unit} (c : Rcl w w1 rb mb pv) (h : Ri w w1 rb mb pv Q nums W pv' lv D') (hg : W.grownBy w2 (some mb)) :
  w2.heap[rb]? = W.heap[rb]? ∧ w2.ownsRow 0 86 2 pv' Q.length (pcells Q) ∧ (∀ b, w.heap.size ≤ b → b < W.heap.size → w2.heap[b]? = W.heap[b]?) ∧ w2.ownsRow w1.heap.size 3 1 lv (cs nums).length (vals (cs nums)) ∧ Fr (rex rb mb pv) w w2 := by
 have ha := h.rol.apart
 have s1 := c.s1
 refine ⟨hg.block rb ha.2.2.1 (fun e => ha.1 (Option.some.inj e)), owns_kept h.rol.own hg (fun b hb e => (ha.2.1 b hb).2 (Option.some.inj e).symm), fun b h1 h2 => hg.block b h2 (fun e => by have := Option.some.inj e; have := c.mb; omega), owns_kept h.own hg (fun b hb e => ?_), h.fr.grown hg (fun b e _ => Or.inr (Or.inl (Option.some.inj e).symm))⟩
 have h1 := (h.own.lt b hb).1
 have := Option.some.inj e
 have := c.mb
 omega
theorem Ri.add {w w1 : World} {rb mb : Nat} {pv : Value} {Q : List (Nat × Nat)} {nums : List Nat} {W w2 w4 : World} {pv' lv v6 : Value} {D' D2 : DataW Unit} {o : Obj} {p : Nat × Nat} (c : Rcl w w1 rb mb pv) (h : Ri w w1 rb mb pv Q nums W pv' lv D') (hg : W.grownBy w2 (some mb))
  (hm : w2.ownsMap Tryz.prog 86 (plainElem Tryz.prog 3) mb (Q.length + 1) D2) (hn : Nmp (Q ++ [p]) D2)
  (hown : w4.ownsRow 0 86 2 v6 (Q.length + 1) (pcells Q ++ [.int .i64 ((p.1 : Nat) : Int), .int .i64 ((p.2 : Nat) : Int)])) (hgrow : (w2.alloc o).grownBy w4 pv'.ownBlock) (hloc : v6.ownBlock = pv'.ownBlock ∨ v6.ownBlock = some (w2.alloc o).heap.size) :
  w4.heap[rb]? = some (.cells #[.map (some mb), pv'] 128) ∧ Hid (Ri w w1 rb mb pv (Q ++ [p]) nums (w4.setCell ⟨rb, 1, none⟩ v6) v6 lv D2 ∧ KeepsFrom w1.heap.size W (w4.setCell ⟨rb, 1, none⟩ v6)) := by
 have s1 := c.s1
 have ha := h.rol.apart
 obtain ⟨hm1, hm2, hm3, hm4, hm5⟩ := h.map c hg
 have hg4 := (World.grownBy_alloc w2 o pv'.ownBlock).trans hgrow
 have hne : ∀ b, pv'.ownBlock = some b → b ≠ rb ∧ b ≠ mb := ha.2.1
 have hs2 : W.heap.size ≤ w2.heap.size := hg.size
 have hrb4 : w4.heap[rb]? = some (.cells #[.map (some mb), pv'] 128) := (hg4.block rb (Nat.lt_of_lt_of_le ha.2.2.1 hs2) (fun e => (hne rb e.symm).1 rfl)).trans (hm1.trans h.rol.blk)
 have gs := gb_set w4 ⟨rb, 1, none⟩ v6
 have hset : ∀ b, b < w4.heap.size → b ≠ rb → (w4.setCell ⟨rb, 1, none⟩ v6).heap[b]? = w4.heap[b]? := fun b hb hn => gs.block b hb (fun e => hn (Option.some.inj e))
 have hs4 : W.heap.size ≤ w4.heap.size := Nat.le_trans hs2 hg4.size
 have hmid : ∀ b, w.heap.size ≤ b → b < w1.heap.size → (w4.setCell ⟨rb, 1, none⟩ v6).heap[b]? = W.heap[b]? := fun b h1 h2 => by
  have hW := h.sz
  rw [hset b (by omega) (by have := c.rb; omega), hg4.block b (by omega) (fun e => by rcases h.pvn c e.symm with h3 | h3 <;> omega)]
  exact hm3 b h1 (by omega)
 refine ⟨hrb4, ⟨⟨⟨?_, ?_, hn, ?_⟩, fun b h1 h2 => (hmid b h1 (by omega)).trans (h.old b h1 h2), (hmid _ (by omega) (by omega)).trans h.lst, ?_, ?_, by rw [World.size_setCell]; exact Nat.le_trans h.sz hs4, ?_, fun b hb hb2 => ?_⟩, kf_trans (kf_trans (kf_grown hg (fun b e hb => ?_)) (kf_grown hg4 (fun b e _ => ?_))) (kf_grown gs (fun b e hb => ?_))⟩⟩
 ·rw [blk_setCell hrb4]; rfl
 ·have e : (Q ++ [p]).length = Q.length + 1 := by simp
  rw [e]
  refine map_of_block hm ?_
  have hmb : mb < w2.heap.size := Nat.lt_of_lt_of_le ha.2.2.2 hs2
  rw [hset mb (Nat.lt_of_lt_of_le hmb hg4.size) (Ne.symm ha.1)]
  exact hg4.block mb hmb (fun e => (hne mb e.symm).2 rfl)
 ·have e : (Q ++ [p]).length = Q.length + 1 := by simp
  rw [e, ← pcells_snoc]
  refine owns_kept hown gs (fun b hb e2 => ?_)
  have e3 := Option.some.inj e2
  dsimp only at e3
  obtain ⟨cc, z, hc⟩ := owns_blk hown hb
  rw [← e3, hrb4] at hc
  cases hc
 ·refine owns_kept (owns_kept hm4 hg4 (fun b hb e => h.ap b hb e)) gs (fun b hb e => ?_)
  have e3 := Option.some.inj e
  dsimp only at e3
  have h1 := (h.own.lt b hb).1
  have := c.rb
  omega
 ·refine (hm5.grown hg4 (fun b e hb => ?_)).setCell (fun _ => Or.inl rfl) _
  rcases h.pvn c e with h3 | h3
  ·exact Or.inr (Or.inr h3.2)
  ·omega
 ·rcases hloc with e | e
  ·rw [e]; exact h.loc
  ·refine Or.inr (fun b hb => ?_)
   rw [e, Option.some.injEq, World.size_alloc] at hb
   have := h.sz
   omega
 ·rcases hloc with e | e
  ·exact h.ap b hb (by rw [← e]; exact hb2)
  ·rw [e, Option.some.injEq, World.size_alloc] at hb2
   have := (h.own.lt b hb).2
   omega
 ·have := Option.some.inj e
  have := c.mb
  omega
 ·obtain ⟨cc, z, hc⟩ := owns_blk hm2 e
  exact ⟨_, _, _, hc⟩
 ·have e' := Option.some.inj e
  dsimp only at e'
  have := c.rb
  omega
theorem Rol.look {w : World} {rb mb : Nat} {pv : Value} {P : List (Nat × Nat)} {D : DataW Unit} (h : Rol w rb mb pv P D) {p : Nat × Nat} (hp : Sml p) :
  ∃ (c : Int) (z : Bool), (Instr.lookup 126 (.map (some mb)) (.agg #[.int .i64 ((p.1 : Nat) : Int), .int .i64 ((p.2 : Nat) : Int)]) true).run Tryz.prog w = .ok (.tuple #[.int .i64 c, .bool z]) w ∧ Hid ((z = true ↔ p ∈ P) ∧ (p ∈ P → c = ((ix p P : Nat) : Int))) := by
 obtain ⟨kl, hkl⟩ := prv_key hp
 have hz3 : (zeroValue 3).run Tryz.prog w = .ok (.int .i64 0) w := by kernel_rfl
 obtain ⟨v, ps, hrun, hv⟩ := h.map.look_ok Tryz.keyed Tryz.underlying126 hz3 (plainElem_int Tryz.underlying3 (by decide)) hkl
 obtain ⟨c, rfl, hc, _⟩ := plainElem_int_inv Tryz.underlying3 hv
 obtain ⟨h1, h2⟩ := h.nmp p kl hp hkl
 refine ⟨c, Maps.has D kl, hrun, h1, fun hm => ?_⟩
 have h3 := h2 hm (.lit (.int .i64 0))
 have h4 := congrArg Prod.fst hc
 simp only at h4
 rw [h3] at h4
 simp only [DataW.lit.injEq, Lit.int.injEq, true_and] at h4
 exact h4.symm
theorem Rol.store {w : World} {rb mb : Nat} {pv : Value} {P : List (Nat × Nat)} {D : DataW Unit} (h : Rol w rb mb pv P D) {p : Nat × Nat} (hp : Sml p) (hn : p ∉ P) (hl : P.length ≤ 2048) :
  ∃ w2 D2, (Instr.mapUpdate 126 (.map (some mb)) (.agg #[.int .i64 ((p.1 : Nat) : Int), .int .i64 ((p.2 : Nat) : Int)]) (.int .i64 ((P.length : Nat) : Int))).run Tryz.prog w = .ok () w2 ∧ w.grownBy w2 (some mb) ∧ w2.ownsMap Tryz.prog 86 (plainElem Tryz.prog 3) mb (P.length + 1) D2 ∧ Nmp (P ++ [p]) D2 := by
 obtain ⟨kl, hkl⟩ := prv_key hp
 have hwf : (Lit.int .i64 ((P.length : Nat) : Int)).wf = true := WalkArith.wf_i64 (by omega)
 obtain ⟨w3, hrun, hown, hg⟩ := h.map.update Tryz.keyed Tryz.underlying126 (by unfold maxLen; omega) hkl (plainElem_int Tryz.underlying3 hwf)
 exact ⟨w3, _, hrun, hg, hown, nmp_put h.nmp h.map.isMap hp hn hkl⟩
theorem nAdds_app {α : Type} [DecidableEq α] (l xs ys : List α) : nAdds l (xs ++ ys) = nAdds (nAdds l xs) ys := by
 unfold nAdds
 rw [List.foldl_append]
end Go.Proofs.YtmdpbaobihdgkaaGreatDoor
