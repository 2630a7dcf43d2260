/- Turn and Turned, each by its contract: both make the graph turned round, in new memory. The closure in distances, and distances itself, by their contracts. -/
import Derived.Test.YthpbgfodejoecaaLeafJ
import Derived.Test.YthpbgfodejoecaaBfs
namespace Go.Proofs.Ythpbgfodejoecaa
open Go.RowKit

theorem errG_zero {G : Nat} {L : Nat → Nat} {Z : Nat → Nat → Int} (h : errG G L Z = 0) : G ≤ 20000 ∧ ∀ r, r < G → ∀ i, i < L r → 0 ≤ Z r i ∧ Z r i < G := by
  unfold errG at h
  by_cases h1 : 20000 < G
  · rw [if_pos h1] at h; cases h
  · rw [if_neg h1] at h
    by_cases h2 : okG G L Z = true
    · exact ⟨by omega, okG_all h2⟩
    · rw [if_neg h2] at h; cases h

end Go.Proofs.Ythpbgfodejoecaa

namespace Go.Proofs.Ythpbgfodejoecaa
open Go.RowKit

/-- The memory of distances: far's variable, order's variable, far's row, and order's own row. -/
structure Bf (w wr : World) (G : Nat) (F : Nat → Int) (O : List Int) (v : Value) : Prop where
  below : Below w.heap.size w wr
  farv : wr.rowIs w.heap.size 26 1 (fun _ => .slice (some ⟨w.heap.size + 1 + 1, 0, none⟩) G G)
  ordv : wr.rowIs (w.heap.size + 1) 26 1 (fun _ => v)
  far : wr.rowIs (w.heap.size + 1 + 1) 3 G (fun i => .int .i64 (F i))
  own : wr.ownsRow (w.heap.size + 1 + 1 + 1) 3 1 v O.length (vals O)

theorem Bf.setFar {w wr : World} {G : Nat} {F : Nat → Int} {O : List Int} {v : Value} (h : Bf w wr G F O v) (x : Nat) (d : Int) : Bf w (wr.setCell ⟨w.heap.size + 1 + 1, x, none⟩ (.int .i64 d)) G (upd F x d) O v := by
  refine ⟨h.below.setCell (by show w.heap.size ≤ w.heap.size + 1 + 1; omega) _, h.farv.setOther (by show w.heap.size ≠ w.heap.size + 1 + 1; omega) _, h.ordv.setOther (by show w.heap.size + 1 ≠ w.heap.size + 1 + 1; omega) _,
    (h.far.set x _).congr (fun i _ => ?_), ownsRow_setCell_below h.own (by show w.heap.size + 1 + 1 < w.heap.size + 1 + 1 + 1; omega) _⟩
  by_cases e : i = x <;> simp [upd, e]

/-- 'order = append(order, node)'. -/
theorem Bf.app {w wr w1 : World} {G : Nat} {F : Nat → Int} {O : List Int} {v v' : Value} {o : Obj} {x : Int} {n : Nat} (h : Bf w wr G F O v) (hn : O.length = n)
    (hown : w1.ownsRow (w.heap.size + 1 + 1 + 1) 3 1 v' (n + 1) (vals O ++ [.int .i64 x])) (hgrow : (wr.alloc o).grownBy w1 v.ownBlock) :
    (∃ a c, v' = .slice a (n + 1) c) ∧ w1.cell? ⟨w.heap.size + 1, 0, none⟩ = some v ∧ w1.frozen? ⟨w.heap.size + 1, 0, none⟩ = false ∧ Hid (Bf w (w1.setCell ⟨w.heap.size + 1, 0, none⟩ v') G F (O ++ [x]) v') := by
  subst hn
  have hVlt : ∀ k, v.ownBlock = some k → w.heap.size + 1 + 1 + 1 ≤ k ∧ k < wr.heap.size := h.own.lt
  have hg : wr.grownBy w1 v.ownBlock := (World.grownBy_alloc _ _ _).trans hgrow
  have hlt := h.far.lt
  have keep : ∀ b, b < w.heap.size + 1 + 1 + 1 → w1.heap[b]? = wr.heap[b]? := fun b hb => hg.block b (by omega) (fun e => by have := hVlt _ e.symm; omega)
  have o1 := h.ordv.of_block (keep _ (by omega))
  refine ⟨?_, o1.cell (by omega), o1.frozen 0, ?_⟩
  · rcases hown.2 with ⟨_, h0⟩ | ⟨g, cap, cur, rfl, _⟩
    · omega
    · exact ⟨_, _, rfl⟩
  · refine ⟨(h.below.grown hg (by omega) (fun k hk => by have := hVlt k hk; omega)).setCell (by show w.heap.size ≤ w.heap.size + 1; omega) _, (h.farv.of_block (keep _ (by omega))).setOther (by show w.heap.size ≠ w.heap.size + 1; omega) _,
      (o1.set 0 v').congr (fun i hi => ?_), (h.far.of_block (keep _ (by omega))).setOther (by show w.heap.size + 1 + 1 ≠ w.heap.size + 1; omega) _, ?_⟩
    · have : i = 0 := by omega
      simp [this]
    · have e : (O ++ [x]).length = O.length + 1 := by simp
      rw [e, ← vals_snoc]
      exact ownsRow_setCell_below hown (by show w.heap.size + 1 < w.heap.size + 1 + 1 + 1; omega) _

theorem cell_one_new' (w : World) (x : Value) (t : TypeId) (b : Nat) (hb : b = w.heap.size) : ∀ j u, [x][j]? = some u → (w.alloc (.cells #[x] t)).cell? ((⟨b, 0, none⟩ : Addr).add j) = some u := by
  subst hb
  exact cell_one_new w x t

set_option maxHeartbeats 1000000 in
theorem meet_any (w wr0 : World) (G : Nat) (F0 : Nat → Int) (O0 : List Int) (v0 : Value) (a : Option Addr) (n c : Nat) (Z : Nat → Int) (d : Int) (hG : G ≤ 20000) (hn : n ≤ 140737488355328) (hrow : Row w a n Z)
    (hin : ∀ i, i < n → 0 ≤ Z i ∧ Z i < G) (hlen : ∀ k, k ≤ n → ∀ F O, (F, O) = meetTo d Z k (F0, O0) → O.length ≤ G) (hB : Bf w wr0 G F0 O0 v0) :
    Calls Try.prog 94 #[.slice a n c, .int .i64 d, .pointer (some ⟨w.heap.size, 0, none⟩), .pointer (some ⟨w.heap.size + 1, 0, none⟩)] wr0 fun e w' => e = .returned (.tuple #[]) ∧ ∃ F O v, (F, O) = meetTo d Z n (F0, O0) ∧ Bf w w' G F O v := by
  obtain ⟨b, o, ha, hc⟩ := hrow
  have HC : Hid (∀ i, i < n → w.cell? ⟨b, o + i, none⟩ = some (.int .i64 (Z i))) := hc
  have HN : Hid (∀ i, i < n → 0 ≤ Z i ∧ Z i < G) := hin
  have HLN : Hid (∀ k, k ≤ n → ∀ F O, (F, O) = meetTo d Z k (F0, O0) → O.length ≤ G) := hlen
  have HB0 : Hid (Bf w wr0 G F0 O0 v0) := hB
  clear hc hin hlen hB
  obtain ⟨i0, hi, hz0, hz1, hz2⟩ := info_parts Try.info3
  have HI : Hid (Try.prog.info? 3 = some i0 ∧ i0.zero = some (.int .i64 0) ∧ i0.size = 1 ∧ i0.bytes = 8) := ⟨hi, hz0, hz1, hz2⟩
  clear hi hz0 hz1 hz2
  go_enter Try.func94, Try.ntmps94
  go_wp2
  go_loopw [10] (fun i wr => ∃ k : Nat, k ≤ n ∧ i = .int .i64 k ∧ Hid (∃ F O v, (F, O) = meetTo d Z k (F0, O0) ∧ Bf w wr G F O v)) (fun i _ => n - (intOf i).toNat)
  case atStart => exact ⟨0, Nat.zero_le _, rfl, hid ⟨F0, O0, v0, rfl, HB0.out⟩⟩
  case round =>
    obtain ⟨k, hk, rfl, hX⟩ := hrel
    obtain ⟨F, O, v, hs, hB⟩ := hX.out
    have HS : Hid ((F, O) = meetTo d Z k (F0, O0)) := hs
    have HB : Hid (Bf w wr G F O v) := hB
    clear hX hs hB HB0
    by_cases hlt : k < n
    · obtain rfl := ha (by omega)
      obtain ⟨t, ht⟩ : ∃ t : Nat, Z k = t := ⟨(Z k).toNat, by have := HN.out k hlt; omega⟩
      have htG : t < G := by have := HN.out k hlt; omega
      have htz : (t : Int) < G := by omega
      have hcell : wr.cell? ⟨b, o + k, none⟩ = some (.int .i64 t) := by
        rw [HB.out.below.cell (p := ⟨b, o + k, none⟩) (World.block_lt_of_cell? _ _ (HC.out k hlt)), HC.out k hlt, ht]
      have HT : Hid (Z k = t) := ht
      clear ht
      have hfv := HB.out.farv.cell (i := 0) (by omega)
      have hov := HB.out.ordv.cell (i := 0) (by omega)
      have hft := HB.out.far.cell htG
      have hff := HB.out.far.frozen t
      have hsize := HB.out.far.lt
      by_cases h1 : F t = -1
      · have hb : (F t == -1) = true := beq_iff_eq.2 h1
        have H1 : Hid (F t = -1) := h1
        have hB2 := HB.out.setFar t d
        have HB2 : Hid (Bf w (wr.setCell ⟨w.heap.size + 1 + 1, t, none⟩ (.int .i64 d)) G (upd F t d) O v) := hB2
        have hov2 := hB2.ordv.cell (i := 0) (by omega)
        have hol := HLN.out k hk F O HS.out
        obtain ⟨a2, c2, hv, _⟩ := owns_row hB2.own
        have hown := hB2.own
        rw [hv] at hown hov2
        have HV : Hid (v = .slice a2 O.length c2) := hv
        have HO : Hid ((wr.setCell ⟨w.heap.size + 1 + 1, t, none⟩ (.int .i64 d)).ownsRow (w.heap.size + 1 + 1 + 1) 3 1 (.slice a2 O.length c2) O.length (vals O)) := hown
        clear h1 hB2 hv hown hov
        generalize hnn : O.length = m at *
        have HM : Hid (O.length = m) := hnn
        clear hnn
        go_wp2_with (at_builtin; refine wpList_append_own_at _ rfl _ _ 26 rfl (w.heap.size + 1 + 1 + 1) 3 i0 (.int .i64 0) 1 8 Try.underlying26 HI.out.1 HI.out.2.1 HI.out.2.2.1 HI.out.2.2.2 rfl (by decide) _ _ _ rfl (HO.out.alloc _) ⟨wr.heap.size, 0, none⟩ 1 1 [.int .i64 t] rfl rfl (cell_one_new' _ _ _ _ (by simp)) (ints_oneCell .i64 [(t : Int)]) (by unfold maxLen; omega) (by omega) (by simp; omega) ?_; intro v' w2 hown' hgrow hnil hloc; obtain ⟨⟨a3, c3, rfl⟩, g1, g2, G3⟩ := Bf.app HB2.out HM.out hown' (by rw [HV.out]; exact hgrow); rw [HV.out] at g1; clear hown' hgrow hnil hloc)
        go_roundw
        case rel => exact ⟨k + 1, by omega, by go_num, hid ⟨_, _, _, meet_hit HS.out HT.out H1.out, G3.out⟩⟩
        case measure => simp [intOf]; omega
      · have hb : (F t == -1) = false := beq_eq_false_iff_ne.2 h1
        have H1 : Hid (F t ≠ -1) := h1
        clear h1
        go_wp2
        go_roundw
        case rel => exact ⟨k + 1, by omega, by go_num, hid ⟨F, O, v, meet_miss HS.out HT.out H1.out, HB.out⟩⟩
        case measure => simp [intOf]; omega
    · go_wp2
      obtain rfl : k = n := by omega
      go_end0
      exact ⟨rfl, F, O, v, HS.out, HB.out⟩

end Go.Proofs.Ythpbgfodejoecaa
