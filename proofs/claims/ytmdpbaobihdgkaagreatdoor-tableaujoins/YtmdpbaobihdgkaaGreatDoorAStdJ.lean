/-   -/
import Derived.Deep.WholeRow
import Derived.Deep.MidRow
import Derived.Laws.Bits64b
import Derived.Lib.TrailingZeros
import Derived.Deep.OwnRows
import Derived.Maps.AppendAt
import Derived.Test.YtmdpbaobihdgkaaGreatDoorRows
import Derived.WalkKit
import Derived.WalkSpells
import Derived.WalkLawsBesides
import Derived.Deep.QuietTactic
import Derived.BigQuiet
import Derived.Below
import Derived.Deep.Heap
import Derived.Test.YtmdpbaobihdgkaaGreatDoorRwsJ
import Derived.Test.YtmdpbaobihdgkaaGreatDoorBaseJ
import Derived.Test.YtmdpbaobihdgkaaGreatDoorPshJ
import Derived.Test.YtmdpbaobihdgkaaGreatDoorTeaJ
import Derived.Test.YtmdpbaobihdgkaaGreatDoorWk
import Derived.Test.YtmdpbaobihdgkaaGreatDoorMkfJ
import Derived.Test.YtmdpbaobihdgkaaGreatDoorAStc
/- Slices of sets; setsOf. -/
/- Words that go round: their letters, their least form, when two are alike. -/
namespace Go.Proofs.YtmdpbaobihdgkaaGreatDoor
open Go.RowKit

/-- n sets, one behind the other, from the head of block b on. -/
def Ls (w : World) (b n : Nat) (X : Nat → Nat → Nat) : Prop := ∀ i, i < n → St w b (i * 32) (X i)

theorem St.congr {w : World} {b o : Nat} {x y : Nat → Nat} (h : St w b o x) (e : ∀ i, i < 32 → x i = y i) : St w b o y :=
  ⟨fun i hi => by rw [← e i hi]; exact h.cell i hi, h.free, fun i hi => by rw [← e i hi]; exact h.small i hi⟩
theorem St.lt {w : World} {b o : Nat} {x : Nat → Nat} (h : St w b o x) : b < w.heap.size := World.block_lt_of_cell? _ _ (h.cell 0 (by omega))
theorem St.of_block {w w' : World} {b o : Nat} {x : Nat → Nat} (h : St w b o x) (e : w'.heap[b]? = w.heap[b]?) : St w' b o x :=
  ⟨fun i hi => by rw [World.cell?_of_block (w := w) (by exact e)]; exact h.cell i hi, fun i hi => by
    have := h.free i hi
    unfold World.frozen? at this ⊢
    simp only [e]
    exact this, h.small⟩
theorem St.below {w w' : World} {b o B : Nat} {x : Nat → Nat} (h : St w b o x) (hb : Below B w w') (hB : b < B) : St w' b o x := h.of_block (hb.block b hB)
theorem St.below' {w w' : World} {b o : Nat} {x : Nat → Nat} (h : St w b o x) (hb : Below w.heap.size w w') : St w' b o x := h.below hb h.lt
theorem St.but {w w' : World} {b o c : Nat} {x : Nat → Nat} (h : St w b o x) (hb : But c w w') (hc : b ≠ c) : St w' b o x := h.of_block (hb.block b h.lt hc)
theorem Ls.below' {w w' : World} {b n : Nat} {X : Nat → Nat → Nat} (h : Ls w b n X) (hb : Below w.heap.size w w') : Ls w' b n X := fun i hi => (h i hi).below' hb
theorem Ls.but {w w' : World} {b n c : Nat} {X : Nat → Nat → Nat} (h : Ls w b n X) (hb : But c w w') (hc : b ≠ c) : Ls w' b n X := fun i hi => (h i hi).but hb hc
theorem Ls.congr {w : World} {b n : Nat} {X Y : Nat → Nat → Nat} (h : Ls w b n X) (e : ∀ i, i < n → ∀ j, j < 32 → X i j = Y i j) : Ls w b n Y := fun i hi => (h i hi).congr (e i hi)

/-- One cell of a set is written: that set is another, those apart from it stay. -/
theorem St.set {w : World} {b o : Nat} {x : Nat → Nat} (h : St w b o x) {i v : Nat} (hi : i < 32) (hv : v < 18446744073709551616) : St (w.setCell ⟨b, o + i, none⟩ (.int .u64 (v : Nat))) b o (upd x i v) := by
  refine ⟨fun j hj => ?_, fun j hj => by rw [World.frozen?_setCell]; exact h.free j hj, upd_small h.small hv⟩
  unfold upd
  by_cases e : j = i
  · subst e
    rw [if_pos rfl]
    exact World.cell?_setCell_same _ _ _ (h.cell j hj)
  · rw [if_neg e, World.cell?_setCell_other _ _ _ _ (by intro hh; simp only [Addr.mk.injEq] at hh; omega)]
    exact h.cell j hj
theorem St.set_apart {w : World} {b o : Nat} {x : Nat → Nat} (h : St w b o x) {q i : Nat} {v : Value} (hi : i < 32) (hq : q + 32 ≤ o ∨ o + 32 ≤ q) : St (w.setCell ⟨b, q + i, none⟩ v) b o x :=
  ⟨fun j hj => by rw [World.cell?_setCell_other _ _ _ _ (by intro hh; simp only [Addr.mk.injEq] at hh; omega)]; exact h.cell j hj, fun j hj => by rw [World.frozen?_setCell]; exact h.free j hj, h.small⟩

theorem Sm.ls {u w : World} (h : Sm u w) {b n : Nat} {X : Nat → Nat → Nat} (k : Ls u b n X) : Ls w b n X := fun i hi => h.st (k i hi)

/-- One state more or less in one of the sets. -/
def at1 (X : Nat → Nat → Nat) (i : Nat) (x : Nat → Nat) : Nat → Nat → Nat := fun j => if j = i then x else X j

theorem Ls.set {w : World} {b n : Nat} {X : Nat → Nat → Nat} (h : Ls w b n X) {i k v : Nat} (hi : i < n) (hk : k < 32) (hv : v < 18446744073709551616) : Ls (w.setCell ⟨b, i * 32 + k, none⟩ (.int .u64 (v : Nat))) b n (at1 X i (upd (X i) k v)) := by
  intro j hj
  unfold at1
  by_cases e : j = i
  · subst e; rw [if_pos rfl]; exact (h j hj).set hk hv
  · rw [if_neg e]; exact (h j hj).set_apart hk (by omega)

theorem setCells_st {w : World} {b o : Nat} {x y : Nat → Nat} (h : St w b o x) (hy : ∀ i, i < 32 → y i < 18446744073709551616) : St (w.setCells b o (cellsS y).toList) b o y := by
  have ht : w.there b o (cellsS y).toList.length := fun j hj => by
    have hj : j < 32 := by simpa [cellsS_size] using hj
    exact ⟨by rw [h.cell j hj]; rfl, h.free j hj⟩
  refine ⟨fun i hi => World.rangeAt_setCells_same w b o _ ht i _ (by simpa using cellsS_at y i hi), fun i hi => by rw [World.frozen?_setCells]; exact h.free i hi, hy⟩
theorem setCells_apart {w : World} {b o q : Nat} {x y : Nat → Nat} (h : St w b o x) (hq : q + 32 ≤ o ∨ o + 32 ≤ q) : St (w.setCells b q (cellsS y).toList) b o x := by
  refine ⟨fun i hi => ?_, fun i hi => by rw [World.frozen?_setCells]; exact h.free i hi, h.small⟩
  exact World.rangeAt_setCells_apart h.range b q _ (by simp [cellsS_size]; omega) i _ (by simpa using cellsS_at x i hi)

/-- A set is stored whole, anywhere. -/
theorem wl_store' {ops : Array Oper} {rest : List Oper} {op : Oper} {a : Act} {w : World} {Q : Exit → Act → World → Prop} (hgd : op.guard = none) (x y : Operand) (ho : op.op = .store 69 x y)
    (b o : Nat) (z : Nat → Nat) (hx : a.eval x = .pointer (some ⟨b, o, none⟩)) (hy : a.eval y = .agg (cellsS z)) (z0 : Nat → Nat) (hs : St w b o z0) (hz : ∀ i, i < 32 → z i < 18446744073709551616)
    (h : ∀ w', But b w w' → w'.heap.size = w.heap.size → St w' b o z → (∀ q y, q + 32 ≤ o ∨ o + 32 ≤ q → St w b q y → St w' b q y) → wpList Tryz.prog ops Q rest (a.put op.dst undef) w') : wpList Tryz.prog ops Q (op :: rest) a w :=
  wpList_store_mid hgd 69 x y ho b o (cellsS z) hx hy (by rw [cellsS_size]; exact fun j hj => ⟨by rw [hs.cell j hj]; rfl, hs.free j hj⟩) (by rw [Tryz.info69, cellsS_size]) (cellsS_one z)
    (h _ (setCells_but b _ _ _).1 (setCells_but b _ _ _).2 (setCells_st hs hz) (fun q y hq hs' => setCells_apart hs' (by omega)))

theorem Tryz.infoS : (Tryz.prog.info? 69).map (fun i => (i.zero, i.size, i.bytes)) = some (some (.agg (cellsS (fun _ => 0))), 32, 256) := by kernel_rfl

theorem made_ls (w : World) (n : Nat) : Ls (w.alloc (.cells (madeCells (cellsS (fun _ => 0)) (n * 32)) 69)) w.heap.size n (fun _ _ => 0) := by
  intro i hi
  have hb : (w.alloc (.cells (madeCells (cellsS (fun _ => 0)) (n * 32)) 69)).heap[w.heap.size]? = some (.cells (madeCells (cellsS (fun _ => 0)) (n * 32)) 69) := Go.Deep.blk_alloc_new _ _
  refine ⟨fun j hj => cell_of_cells hb ?_, fun j hj => by unfold World.frozen?; rw [hb]; simp, fun _ _ => (by decide : 0 < 18446744073709551616)⟩
  have h1 : i * 32 + j < n * 32 := by omega
  have h2 : (i * 32 + j) % 32 = j := by omega
  have h3 := cellsS_at (fun _ => 0) j hj
  unfold madeCells
  rw [Array.getElem?_map, Array.getElem?_range]
  simp only [h1, if_true, Option.map_some, cellsS_size, h2]
  rw [getElem!_def, h3]

set_option maxHeartbeats 1000000 in
theorem setsOf_any (ga : Option Addr) (G gc : Nat) (L : Nat → Nat) (Z : Nat → Nat → Int) (w : World) (hG : G ≤ 2048) (hL : ∀ r, r < G → L r ≤ 140737488355328) (h : Gr w ga G L Z) (hZ : ∀ r, r < G → ∀ i, i < L r → 0 ≤ Z r i ∧ Z r i < 2048) :
    Calls Tryz.prog 25 #[.slice ga G gc] w fun e w' => e = .returned (.slice (some ⟨w.heap.size, 0, none⟩) G G) ∧ Ls w' w.heap.size G (fun r => ofL (Z r) (L r)) ∧ Below w.heap.size w w' ∧ w.heap.size < w'.heap.size := by
  obtain ⟨b, o, ha, hc⟩ := h
  have HC : Hid (∀ r, r < G → ∃ a c, w.cell? ⟨b, o + r, none⟩ = some (.slice a (L r) c) ∧ Row w a (L r) (Z r)) := hc
  have HL : Hid (∀ r, r < G → L r ≤ 140737488355328) := hL
  have HZ : Hid (∀ r, r < G → ∀ i, i < L r → 0 ≤ Z r i ∧ Z r i < 2048) := hZ
  clear hc hL hZ
  obtain ⟨i0, hi, hz0, hz1, hz2⟩ := info_parts Tryz.infoS
  have hmk : (Instr.makeSlice 64 (.int .i64 (G : Int)) (.int .i64 (G : Int))).run Tryz.prog w = .ok (.slice (some ⟨w.heap.size, 0, none⟩) G G) (w.alloc (.cells (madeCells (cellsS (fun _ => 0)) (G * 32)) 69)) := by
    have := run_make (P := Tryz.prog) w 64 69 i0 (.agg (cellsS (fun _ => 0))) Tryz.underlying64 hi hz0 .i64 .i64 G G (by omega) (by omega) (by rw [hz2]; omega) (by omega)
    rw [hz1] at this
    simpa [Value.cells] using this
  clear hi hz0 hz1 hz2
  go_enter Tryz.func25, Tryz.ntmps25
  go_wp2
  clear hmk
  go_loopw [11] (fun i wr => ∃ k : Nat, k ≤ G ∧ i = .int .i64 k ∧ Hid ((Below w.heap.size w wr ∧ w.heap.size < wr.heap.size) ∧ Ls wr w.heap.size G (fun r => if r < k then ofL (Z r) (L r) else fun _ => 0))) (fun i _ => G - (intOf i).toNat)
  case atStart => exact ⟨0, by omega, rfl, hid ⟨⟨box_below _ _, by simp⟩, (made_ls w G).congr (fun r _ j _ => by rw [if_neg (by omega)])⟩⟩
  case round =>
    obtain ⟨k, hk, rfl, H⟩ := hrel
    by_cases hlt : k < G
    · obtain rfl := ha (by omega)
      obtain ⟨a, c, hck0, hrow0⟩ := HC.out k hlt
      have hck : wr.cell? ⟨b, o + k, none⟩ = some (.slice a (L k) c) := below_cell H.out.1.1 (Nat.le_refl _) hck0
      have C := hid (setOf_any a (L k) c (Z k) wr (HL.out k hlt) (hrow0.below H.out.1.1) (HZ.out k hlt))
      clear hck0 hrow0
      go_wp2_with fail
      refine C.out.mono ?_
      rintro e w' ⟨rfl, hb1⟩
      have HB := hid hb1
      clear hb1
      have hst : Hid (St w' w.heap.size (k * 32) (fun _ => 0)) := by
        have := (H.out.2 k hlt).below' HB.out
        dsimp only at this
        rw [if_neg (Nat.lt_irrefl _)] at this
        exact this
      go_wp2_with (refine wl_store' rfl _ _ rfl w.heap.size (k * 32) (ofL (Z k) (L k)) rfl rfl _ hst.out (ofL_small (HZ.out k hlt)) ?_; intro w1 hb1 hs1 hx1 hy1; have G1 := hid (And.intro hb1 (And.intro hx1 hy1)); clear hb1 hx1 hy1)
      go_roundw
      case rel =>
        refine ⟨k + 1, by omega, by go_num, hid ⟨?_, ?_⟩⟩
        · refine ⟨?_, by have := H.out.1.2; have := HB.out.size; have := G1.out.1.size; omega⟩
          exact (H.out.1.1.trans (HB.out.mono H.out.1.1.size)).trans (G1.out.1.below (Nat.le_refl _) (Nat.le_trans H.out.1.1.size HB.out.size))
        · intro j hj
          by_cases e : j = k
          · subst e
            dsimp only
            rw [if_pos (by omega)]
            exact G1.out.2.1
          · have h1 := G1.out.2.2 (j * 32) _ (by omega) ((H.out.2 j hj).below' HB.out)
            dsimp only at h1 ⊢
            by_cases e2 : j < k
            · rw [if_pos e2] at h1
              rw [if_pos (by omega)]; exact h1
            · rw [if_neg e2] at h1
              rw [if_neg (by omega)]; exact h1
      case measure => simp [intOf]; omega
    · go_wp2
      go_ret
      exact ⟨rfl, H.out.2.congr (fun r hr j _ => by rw [if_pos (by omega)]), H.out.1.1, H.out.1.2⟩

end Go.Proofs.YtmdpbaobihdgkaaGreatDoor

namespace Go.Proofs.YtmdpbaobihdgkaaGreatDoor
open Go.RowKit

theorem ltr_stem {s m : Nat} {S L : Nat → Int} {i : Nat} (h : i < s) : ltr s m S L i = S i := if_pos h
theorem ltr_loop {s m : Nat} {S L : Nat → Int} {i : Nat} (h : i < m) : ltr s m S L (s + i) = L i := by
  unfold ltr
  rw [if_neg (by omega), show s + i - s = i by omega, Nat.mod_eq_of_lt h]
theorem ltr_far {s m : Nat} {S L : Nat → Int} {i : Nat} (h : s ≤ i) : ltr s m S L i = L ((i - s) % m) := if_neg (by omega)

end Go.Proofs.YtmdpbaobihdgkaaGreatDoor
