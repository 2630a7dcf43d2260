/- A pair as a map's key; the numbers of pairs in a map. -/
import Derived.Maps.OwnSet
import Derived.Maps.OwnOps
import Derived.DeepKeys4
import Derived.Test.YtdncjikmknkkpaaDoorNmbJ
namespace Go.Proofs.YtdncjikmknkkpaaDoor
open Go.RowKit Go.Maps

theorem Tryd.laidP : laidOutB Tryd.prog = true := by kernel_rfl
theorem Tryd.row79 : (79 : TypeId) < Tryd.prog.types.size := of_decide_eq_true (by kernel_rfl)
theorem Tryd.cells79 : Tryd.prog.cellsOf 79 = 2 := by kernel_rfl
theorem Tryd.cells3p : Tryd.prog.cellsOf 3 = 1 := by kernel_rfl
theorem Tryd.wide79 : (match Tryd.prog.underlying 79 with | some (.array _ _) | some (.struct _) => true | _ => false) = true := by kernel_rfl
set_option maxRecDepth 100000 in
theorem Tryd.kLaw : Go.WideMaps.KeyLaw Tryd.prog 79 := deep_law_laid Tryd.laidP (m := 2) (by omega) Tryd.row79 (by kernel_rfl) Tryd.wide79
theorem Tryd.keyed : Keyed Tryd.prog 79 := Keyed.of_law Tryd.kLaw
theorem Tryd.keyT79 : Tryd.prog.keyType 79 = true := by kernel_rfl

/-- A pair's value. -/
def prv (p : Nat × Nat) : Value := .agg #[.int .i64 (p.1 : Nat), .int .i64 (p.2 : Nat)]
theorem prv_inj {p q : Nat × Nat} (h : prv p = prv q) : p = q := by
  obtain ⟨a, b⟩ := p
  obtain ⟨c, d⟩ := q
  simp [prv] at h
  obtain ⟨h1, h2⟩ := h
  have e1 : a = c := by omega
  have e2 : b = d := by omega
  rw [e1, e2]

def Sml (p : Nat × Nat) : Prop := p.1 < 4096 ∧ p.2 < 4096

theorem prv_key {p : Nat × Nat} (h : Sml p) : ∃ kl, keyOf Tryd.prog 79 (prv p) = some kl := by
  obtain ⟨a, b⟩ := p
  obtain ⟨h1, h2⟩ := h
  dsimp only at h1 h2
  have hsz : ∃ m, Tryd.prog.types.size = m + 1 := ⟨Tryd.prog.types.size - 1, by
    have : 0 < Tryd.prog.types.size := of_decide_eq_true (by kernel_rfl)
    omega⟩
  obtain ⟨m0, hm0⟩ := hsz
  have w1 : (Lit.int .i64 (a : Int)).wf = true := WalkArith.wf_i64 (by omega)
  have w2 : (Lit.int .i64 (b : Int)).wf = true := WalkArith.wf_i64 (by omega)
  unfold keyOf prv
  simp only [Tryd.underlying79]
  rw [if_pos (by simp [Tryd.keyT79, Value.formed, Tryd.underlying79, Tryd.cells79]), hm0]
  simp [Program.keyLits, Tryd.underlying79, Tryd.underlying3, Value.cells, Tryd.cells79, Tryd.cells3p, w1, w2]

/-- The map has each pair's number. -/
def Nmp (P : List (Nat × Nat)) (D : DataW Unit) : Prop := ∀ p kl, Sml p → keyOf Tryd.prog 79 (prv p) = some kl → (Maps.has D kl = true ↔ p ∈ P) ∧ (p ∈ P → ∀ zd, D.atKey kl zd = .lit (.int .i64 ((ix p P : Nat) : Int)))

theorem nmp_start : Nmp [] (.map []) := fun p kl _ _ => ⟨by simp [has_eq], fun h => by cases h⟩

theorem nmp_put {P : List (Nat × Nat)} {D : DataW Unit} (h : Nmp P D) (hD : IsMap D) {q : Nat × Nat} (hq : Sml q) (hn : q ∉ P) {kq : Lit} (hk : keyOf Tryd.prog 79 (prv q) = some kq) : Nmp (P ++ [q]) (D.put kq (.lit (.int .i64 ((P.length : Nat) : Int)))) := by
  intro p kl hs hkl
  by_cases e : p = q
  · subst e
    obtain rfl : kl = kq := by rw [hkl] at hk; exact Option.some.inj hk
    refine ⟨⟨fun _ => by simp, fun _ => has_put_same hD (Tryd.keyed.key hkl) _⟩, fun _ zd => ?_⟩
    rw [atKey_put_same hD (Tryd.keyed.key hkl), ix_new hn]
  · have hne : kl ≠ kq := fun e2 => by
      subst e2
      exact e (prv_inj (Tryd.keyed.inj hkl hk))
    obtain ⟨h1, h2⟩ := h p kl hs hkl
    rw [has_put_other hne]
    refine ⟨h1.trans (by simp [e]), fun hmem zd => ?_⟩
    rw [atKey_put_other hne]
    have hpp : p ∈ P := by
      rcases List.mem_append.1 hmem with h3 | h3
      · exact h3
      · exact absurd (List.mem_singleton.1 h3) e
    rw [ix_app hpp]
    exact h2 hpp zd

/-- Pairs as cells. -/
def pcells (P : List (Nat × Nat)) : List Value := P.flatMap fun p => [.int .i64 ((p.1 : Nat) : Int), .int .i64 ((p.2 : Nat) : Int)]
theorem pcells_snoc (P : List (Nat × Nat)) (p : Nat × Nat) : pcells P ++ [.int .i64 ((p.1 : Nat) : Int), .int .i64 ((p.2 : Nat) : Int)] = pcells (P ++ [p]) := by simp [pcells]
theorem pcells_at : ∀ (P : List (Nat × Nat)) (i : Nat), i < P.length → (pcells P)[i * 2]? = some (.int .i64 ((nAt P i).1 : Nat)) ∧ (pcells P)[i * 2 + 1]? = some (.int .i64 ((nAt P i).2 : Nat))
  | [], i, h => absurd h (Nat.not_lt_zero _)
  | p :: P, 0, _ => by simp [pcells, nAt]
  | p :: P, i + 1, h => by
    obtain ⟨h1, h2⟩ := pcells_at P i (by simpa using h)
    have e : pcells (p :: P) = [.int .i64 ((p.1 : Nat) : Int), .int .i64 ((p.2 : Nat) : Int)] ++ pcells P := by simp [pcells]
    have e3 : nAt (p :: P) (i + 1) = nAt P i := by simp [nAt]
    rw [e, e3, show (i + 1) * 2 = i * 2 + 2 by omega, show i * 2 + 2 + 1 = (i * 2 + 1) + 2 by omega]
    exact ⟨by simpa using h1, by simpa using h2⟩

/-- All but some blocks stays. -/
structure Fr (ex : Nat → Prop) (w w' : World) : Prop where
  os : w'.os = w.os
  tape : w'.tape = w.tape
  output : w'.output = w.output
  size : w.heap.size ≤ w'.heap.size
  block : ∀ b, b < w.heap.size → ¬ ex b → w'.heap[b]? = w.heap[b]?
theorem Fr.refl (ex : Nat → Prop) (w : World) : Fr ex w w := ⟨rfl, rfl, rfl, Nat.le_refl _, fun _ _ _ => rfl⟩
theorem Fr.of_below {ex : Nat → Prop} {w w' : World} (h : Below w.heap.size w w') : Fr ex w w' := ⟨h.os, h.tape, h.output, h.size, fun b hb _ => h.block b hb⟩
theorem Fr.trans {ex ey : Nat → Prop} {a b c : World} (h : Fr ex a b) (k : Fr ey b c) (he : ∀ x, x < a.heap.size → ey x → ex x) : Fr ex a c :=
  ⟨k.os.trans h.os, k.tape.trans h.tape, k.output.trans h.output, Nat.le_trans h.size k.size, fun x hx hn => (k.block x (Nat.lt_of_lt_of_le hx h.size) (fun e => hn (he x hx e))).trans (h.block x hx hn)⟩
theorem Fr.cell {ex : Nat → Prop} {w w' : World} (h : Fr ex w w') {p : Addr} {v : Value} (hn : ¬ ex p.block) (hc : w.cell? p = some v) : w'.cell? p = some v :=
  (World.cell?_of_block (h.block _ (World.block_lt_of_cell? _ _ hc) hn)).trans hc
theorem Fr.below {ex : Nat → Prop} {w w' u : World} (h : Fr ex w w') (hu : Below u.heap.size u w) (he : ∀ b, b < u.heap.size → ¬ ex b) : Below u.heap.size u w' :=
  ⟨h.os.trans hu.os, h.tape.trans hu.tape, h.output.trans hu.output, Nat.le_trans hu.size h.size, fun b hb => (h.block b (Nat.lt_of_lt_of_le hb hu.size) (he b hb)).trans (hu.block b hb)⟩
theorem Fr.grown {ex : Nat → Prop} {w w' w2 : World} {row : Option Nat} (h : Fr ex w w') (hg : w'.grownBy w2 row) (he : ∀ b, row = some b → b < w.heap.size → ex b) : Fr ex w w2 :=
  ⟨hg.os.trans h.os, hg.tape.trans h.tape, hg.output.trans h.output, Nat.le_trans h.size hg.size, fun x hx hn => (hg.block x (Nat.lt_of_lt_of_le hx h.size) (fun e => hn (he x e.symm hx))).trans (h.block x hx hn)⟩
theorem Fr.setCell {ex : Nat → Prop} {w w' : World} (h : Fr ex w w') {p : Addr} (he : p.block < w.heap.size → ex p.block) (v : Value) : Fr ex w (w'.setCell p v) :=
  ⟨h.os, h.tape, h.output, by simpa using h.size, fun x hx hn => (Below.heap_setCell _ _ _ _ (fun e => hn (by subst e; exact he hx))).trans (h.block x hx hn)⟩

/-- The roll: its two cells, the map of numbers, the pairs. -/
structure Rol (w : World) (rb mb : Nat) (pv : Value) (P : List (Nat × Nat)) (D : DataW Unit) : Prop where
  blk : w.heap[rb]? = some (.cells #[.map (some mb), pv] 117)
  map : w.ownsMap Tryd.prog 79 (plainElem Tryd.prog 3) mb P.length D
  nmp : Nmp P D
  own : w.ownsRow 0 79 2 pv P.length (pcells P)
/-- The roll's blocks. -/
def rex (rb mb : Nat) (pv : Value) (b : Nat) : Prop := b = rb ∨ b = mb ∨ pv.ownBlock = some b

end Go.Proofs.YtdncjikmknkkpaaDoor

