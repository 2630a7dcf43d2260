/- The closure in distances, and distances itself, by their contracts. A region that draws its order, whose last operation waits for all the others, which only read: the others in the order of the text, then the last one. distances, by its contract. checkFrom and Reach, by their contracts. -/
import Derived.Deep.OwnRows
import Derived.Maps.AppendAt
import Derived.Test.YtgahdclbaifcbaaRows
import Derived.WalkKit
import Derived.WalkSpells
import Derived.WalkLawsBesides
import Derived.Deep.QuietTactic
import Derived.BigQuiet
import Derived.Test.YtgahdclbaifcbaaScBfsJ
import Derived.Test.YtgahdclbaifcbaaFamJ
import Derived.Deep.Quiet
import Derived.RegionTactic
namespace Go.Proofs.Ytgahdclbaifcbaa
open Go.RowKit

/-- The memory of distances: far's variable, order's variable, far's row, and order's own row. -/
structure Bf (w wr : World) (G : Nat) (F : Nat → Int) (O : List Int) (v : Value) : Prop where
  below : Below w.heap.size w wr
  farv : wr.rowIs w.heap.size 22 1 (fun _ => .slice (some ⟨w.heap.size + 1 + 1, 0, none⟩) G G)
  ordv : wr.rowIs (w.heap.size + 1) 22 1 (fun _ => v)
  far : wr.rowIs (w.heap.size + 1 + 1) 3 G (fun i => .int .i64 (F i))
  own : wr.ownsRow (w.heap.size + 1 + 1 + 1) 3 1 v O.length (vals O)

theorem Bf.setFar {w wr : World} {G : Nat} {F : Nat → Int} {O : List Int} {v : Value} (h : Bf w wr G F O v) (x : Nat) (d : Int) : Bf w (wr.setCell ⟨w.heap.size + 1 + 1, x, none⟩ (.int .i64 d)) G (sc_upd F x d) O v := by
  refine ⟨h.below.setCell (by show w.heap.size ≤ w.heap.size + 1 + 1; omega) _, h.farv.setOther (by show w.heap.size ≠ w.heap.size + 1 + 1; omega) _, h.ordv.setOther (by show w.heap.size + 1 ≠ w.heap.size + 1 + 1; omega) _,
    (h.far.set x _).congr (fun i _ => ?_), ownsRow_setCell_below h.own (by show w.heap.size + 1 + 1 < w.heap.size + 1 + 1 + 1; omega) _⟩
  by_cases e : i = x <;> simp [sc_upd, e]

/-- 'order = append(order, node)'. -/
theorem Bf.app {w wr w1 : World} {G : Nat} {F : Nat → Int} {O : List Int} {v v' : Value} {o : Obj} {x : Int} {n : Nat} (h : Bf w wr G F O v) (hn : O.length = n)
    (hown : w1.ownsRow (w.heap.size + 1 + 1 + 1) 3 1 v' (n + 1) (vals O ++ [.int .i64 x])) (hgrow : (wr.alloc o).grownBy w1 v.ownBlock) :
    (∃ a c, v' = .slice a (n + 1) c) ∧ w1.cell? ⟨w.heap.size + 1, 0, none⟩ = some v ∧ w1.frozen? ⟨w.heap.size + 1, 0, none⟩ = false ∧ Hid (Bf w (w1.setCell ⟨w.heap.size + 1, 0, none⟩ v') G F (O ++ [x]) v') := by
  subst hn
  have hVlt : ∀ k, v.ownBlock = some k → w.heap.size + 1 + 1 + 1 ≤ k ∧ k < wr.heap.size := h.own.lt
  have hg : wr.grownBy w1 v.ownBlock := (World.grownBy_alloc _ _ _).trans hgrow
  have hlt := h.far.lt
  have keep : ∀ b, b < w.heap.size + 1 + 1 + 1 → w1.heap[b]? = wr.heap[b]? := fun b hb => hg.block b (by omega) (fun e => by have := hVlt _ e.symm; omega)
  have o1 := h.ordv.of_block (keep _ (by omega))
  refine ⟨?_, o1.cell (by omega), o1.frozen 0, ?_⟩
  · rcases hown.2 with ⟨_, h0⟩ | ⟨g, cap, cur, rfl, _⟩
    · omega
    · exact ⟨_, _, rfl⟩
  · refine ⟨(h.below.grown hg (by omega) (fun k hk => by have := hVlt k hk; omega)).setCell (by show w.heap.size ≤ w.heap.size + 1; omega) _, (h.farv.of_block (keep _ (by omega))).setOther (by show w.heap.size ≠ w.heap.size + 1; omega) _,
      (o1.set 0 v').congr (fun i hi => ?_), (h.far.of_block (keep _ (by omega))).setOther (by show w.heap.size + 1 + 1 ≠ w.heap.size + 1; omega) _, ?_⟩
    · have : i = 0 := by omega
      simp [this]
    · have e : (O ++ [x]).length = O.length + 1 := by simp
      rw [e, ← vals_snoc]
      exact ownsRow_setCell_below hown (by show w.heap.size + 1 < w.heap.size + 1 + 1 + 1; omega) _

theorem cell_one_new' (w : World) (x : Value) (t : TypeId) (b : Nat) (hb : b = w.heap.size) : ∀ j u, [x][j]? = some u → (w.alloc (.cells #[x] t)).cell? ((⟨b, 0, none⟩ : Addr).add j) = some u := by
  subst hb
  exact cell_one_new w x t

set_option maxHeartbeats 1000000 in
theorem meet_any (w wr0 : World) (G : Nat) (F0 : Nat → Int) (O0 : List Int) (v0 : Value) (a : Option Addr) (n c : Nat) (Z : Nat → Int) (d : Int) (hG : G ≤ 20000) (hn : n ≤ 140737488355328) (hrow : Row w a n Z)
    (hin : ∀ i, i < n → 0 ≤ Z i ∧ Z i < G) (hlen : ∀ k, k ≤ n → ∀ F O, (F, O) = meetTo d Z k (F0, O0) → O.length ≤ G) (hB : Bf w wr0 G F0 O0 v0) :
    Calls Try.prog 64 #[.slice a n c, .int .i64 d, .pointer (some ⟨w.heap.size, 0, none⟩), .pointer (some ⟨w.heap.size + 1, 0, none⟩)] wr0 fun e w' => e = .returned (.tuple #[]) ∧ ∃ F O v, (F, O) = meetTo d Z n (F0, O0) ∧ Bf w w' G F O v := by
  obtain ⟨b, o, ha, hc⟩ := hrow
  have HC : Hid (∀ i, i < n → w.cell? ⟨b, o + i, none⟩ = some (.int .i64 (Z i))) := hc
  have HN : Hid (∀ i, i < n → 0 ≤ Z i ∧ Z i < G) := hin
  have HLN : Hid (∀ k, k ≤ n → ∀ F O, (F, O) = meetTo d Z k (F0, O0) → O.length ≤ G) := hlen
  have HB0 : Hid (Bf w wr0 G F0 O0 v0) := hB
  clear hc hin hlen hB
  obtain ⟨i0, hi, hz0, hz1, hz2⟩ := info_parts Try.info3
  have HI : Hid (Try.prog.info? 3 = some i0 ∧ i0.zero = some (.int .i64 0) ∧ i0.size = 1 ∧ i0.bytes = 8) := ⟨hi, hz0, hz1, hz2⟩
  clear hi hz0 hz1 hz2
  go_enter Try.func64, Try.ntmps64
  go_wp2
  go_loopw [10] (fun i wr => ∃ k : Nat, k ≤ n ∧ i = .int .i64 k ∧ Hid (∃ F O v, (F, O) = meetTo d Z k (F0, O0) ∧ Bf w wr G F O v)) (fun i _ => n - (intOf i).toNat)
  case atStart => exact ⟨0, Nat.zero_le _, rfl, hid ⟨F0, O0, v0, rfl, HB0.out⟩⟩
  case round =>
    obtain ⟨k, hk, rfl, hX⟩ := hrel
    obtain ⟨F, O, v, hs, hB⟩ := hX.out
    have HS : Hid ((F, O) = meetTo d Z k (F0, O0)) := hs
    have HB : Hid (Bf w wr G F O v) := hB
    clear hX hs hB HB0
    by_cases hlt : k < n
    · obtain rfl := ha (by omega)
      obtain ⟨t, ht⟩ : ∃ t : Nat, Z k = t := ⟨(Z k).toNat, by have := HN.out k hlt; omega⟩
      have htG : t < G := by have := HN.out k hlt; omega
      have htz : (t : Int) < G := by omega
      have hcell : wr.cell? ⟨b, o + k, none⟩ = some (.int .i64 t) := by
        rw [HB.out.below.cell (p := ⟨b, o + k, none⟩) (World.block_lt_of_cell? _ _ (HC.out k hlt)), HC.out k hlt, ht]
      have HT : Hid (Z k = t) := ht
      clear ht
      have hfv := HB.out.farv.cell (i := 0) (by omega)
      have hov := HB.out.ordv.cell (i := 0) (by omega)
      have hft := HB.out.far.cell htG
      have hff := HB.out.far.frozen t
      have hsize := HB.out.far.lt
      by_cases h1 : F t = -1
      · have hb : (F t == -1) = true := beq_iff_eq.2 h1
        have H1 : Hid (F t = -1) := h1
        have hB2 := HB.out.setFar t d
        have HB2 : Hid (Bf w (wr.setCell ⟨w.heap.size + 1 + 1, t, none⟩ (.int .i64 d)) G (sc_upd F t d) O v) := hB2
        have hov2 := hB2.ordv.cell (i := 0) (by omega)
        have hol := HLN.out k hk F O HS.out
        obtain ⟨a2, c2, hv, _⟩ := owns_row hB2.own
        have hown := hB2.own
        rw [hv] at hown hov2
        have HV : Hid (v = .slice a2 O.length c2) := hv
        have HO : Hid ((wr.setCell ⟨w.heap.size + 1 + 1, t, none⟩ (.int .i64 d)).ownsRow (w.heap.size + 1 + 1 + 1) 3 1 (.slice a2 O.length c2) O.length (vals O)) := hown
        clear h1 hB2 hv hown hov
        generalize hnn : O.length = m at *
        have HM : Hid (O.length = m) := hnn
        clear hnn
        go_wp2_with (at_builtin; refine wpList_append_own_at _ rfl _ _ 22 rfl (w.heap.size + 1 + 1 + 1) 3 i0 (.int .i64 0) 1 8 Try.underlying22 HI.out.1 HI.out.2.1 HI.out.2.2.1 HI.out.2.2.2 rfl (by decide) _ _ _ rfl (HO.out.alloc _) ⟨wr.heap.size, 0, none⟩ 1 1 [.int .i64 t] rfl rfl (cell_one_new' _ _ _ _ (by simp)) (ints_oneCell .i64 [(t : Int)]) (by unfold maxLen; omega) (by omega) (by simp; omega) ?_; intro v' w2 hown' hgrow hnil hloc; obtain ⟨⟨a3, c3, rfl⟩, g1, g2, G3⟩ := Bf.app HB2.out HM.out hown' (by rw [HV.out]; exact hgrow); rw [HV.out] at g1; clear hown' hgrow hnil hloc)
        go_roundw
        case rel => exact ⟨k + 1, by omega, by go_num, hid ⟨_, _, _, meet_hit HS.out HT.out H1.out, G3.out⟩⟩
        case measure => simp [intOf]; omega
      · have hb : (F t == -1) = false := beq_eq_false_iff_ne.2 h1
        have H1 : Hid (F t ≠ -1) := h1
        clear h1
        go_wp2
        go_roundw
        case rel => exact ⟨k + 1, by omega, by go_num, hid ⟨F, O, v, meet_miss HS.out HT.out H1.out, HB.out⟩⟩
        case measure => simp [intOf]; omega
    · go_wp2
      obtain rfl : k = n := by omega
      go_end0
      exact ⟨rfl, F, O, v, HS.out, HB.out⟩

end Go.Proofs.Ytgahdclbaifcbaa

namespace Go.Proofs.Ytgahdclbaifcbaa
section
variable {P : Program} {ops : Array Oper} {md : Region.Mode} {C : World → Prop}

/-- Whatever order is picked of all but number m; R when m alone is left. -/
def anyBut (P : Program) (md : Region.Mode) (ops : Array Oper) (C : World → Prop) (m : Nat) (R : Act → Prop) : Nat → Array Bool → Act → Prop
  | 0, listed, a => m ∈ Region.ready md ops listed ∧ (∀ i ∈ Region.ready md ops listed, i = m) ∧ R a
  | f + 1, listed, a => (∃ i ∈ Region.ready md ops listed, i ≠ m) ∧ ∀ i ∈ Region.ready md ops listed, i ≠ m → qOp P ops C i (anyBut P md ops C m R f (listed.setIfInBounds i true)) a

theorem anyBut_first {R : Act → Prop} {m i : Nat} {oi : Oper} {v : Value} (him : i ≠ m) (hi : ops[i]? = some oi) (hsel : ∀ (j : Nat) (o : Oper) sc_cs b, ops[j]? = some o → o.op ≠ .select sc_cs b) :
    ∀ (f : Nat) (listed : Array Bool) (a : Act),
      (∀ j oj, ops[j]? = some oj → j ≠ i → listed.getD j true = false → (∀ e ∈ oj.after, Region.binds md e = true → e.on ≠ i) → oi.apart ops oj = true) →
      i ∈ Region.ready md ops listed → YieldsIn P ops C oi v a →
      anyBut P md ops C m R f (listed.setIfInBounds i true) (a.put oi.dst v) → anyBut P md ops C m R (f + 1) listed a := by
  intro f
  induction f with
  | zero =>
    intro listed a _ hr hy H
    refine ⟨⟨i, hr, him⟩, fun j hj hjm => ?_⟩
    by_cases e : j = i
    · subst e; exact hy.qOp hi H
    · exact absurd (H.2.1 j (ready_mono hj e)) hjm
  | succ f ih =>
    intro listed a hfree hr hy H
    refine ⟨⟨i, hr, him⟩, fun j hj hjm => ?_⟩
    by_cases e : j = i
    · subst e; exact hy.qOp hi H
    · have hq := H.2 j (ready_mono hj e) hjm
      obtain ⟨hun, oj, hoj, hdone⟩ := mem_ready.1 hj
      have hnot : ∀ x ∈ oj.after, Region.binds md x = true → x.on ≠ i := fun x hx hb hxi => by
        have h1 := hdone x hx hb
        have h0 := (mem_ready.1 hr).1
        rw [hxi] at h1
        by_cases hlt : i < listed.size
        · simp [hlt] at h0 h1
          rw [h0] at h1
          cases h1
        · simp [Array.getElem?_eq_none (Nat.le_of_not_lt hlt)] at h1
      have hq2 := qOp_put hoj (hfree j oj hoj e hun hnot) (fun sc_cs b => hsel i oi sc_cs b hi) (fun sc_cs b => hsel j oj sc_cs b hoj) hy hq
      refine qOp_mono (fun a' h3 => ih (listed.setIfInBounds j true) a' (fun k ok hk hki hku hno => hfree k ok hk hki ?_ hno) (ready_mono hr (Ne.symm e)) h3.1 ?_) hq2
      · by_cases hjk : j = k
        · subst hjk; exact hun
        · rwa [getD_set_ne true hjk] at hku
      · rw [Array.setIfInBounds_comm _ _ e]
        exact h3.2

def lexBut (md : Region.Mode) (ops : Array Oper) (m : Nat) : Nat → Nat → Array Bool → Bool
  | 0, _, listed => (Region.ready md ops listed).contains m && (Region.ready md ops listed).all (fun i => i == m)
  | f + 1, k, listed => (Region.ready md ops listed).contains k && Region.free md ops listed k && !(k == m) && lexBut md ops m f (k + 1) (listed.setIfInBounds k true)

theorem anyBut_lex {R : Act → Prop} {m : Nat} (hs : Region.noSelect ops = true) : ∀ (l : List Oper) (k : Nat) (listed : Array Bool) (a : Act), (∀ j, j < l.length → l[j]? = ops[k + j]?) →
    lexBut md ops m l.length k listed = true → wpQuiet P ops C R l a → anyBut P md ops C m R l.length listed a
  | [], _, _, _, _, hB, h => by
    simp only [List.length_nil, lexBut, Bool.and_eq_true, List.all_eq_true, beq_iff_eq] at hB
    exact ⟨by simpa using hB.1, hB.2, h⟩
  | o :: l, k, listed, a, hl, hB, h => by
    have h0 : ops[k]? = some o := by simpa using (hl 0 (by simp)).symm
    simp only [List.length_cons, lexBut, Bool.and_eq_true] at hB
    obtain ⟨⟨⟨hr, hf⟩, hkm⟩, hB'⟩ := hB
    have hst : qOp P ops C k (wpQuiet P ops C R l) a := by unfold qOp; simp only [h0]; exact h
    obtain ⟨v, hy, hK⟩ := yieldsIn_of_qOp h0 hst
    exact anyBut_first (by simpa using hkm) h0 (Region.noSelect_spec hs) l.length listed a (Region.free_spec h0 hf) (by simpa using hr) hy
      (anyBut_lex hs l (k + 1) _ _ (fun j hj => by have := hl (j + 1) (by simpa using hj); simpa [Nat.add_assoc, Nat.add_comm 1 j] using this) hB' hK)

/-- What has come up has all that it waits for behind it. -/
def Clos (md : Region.Mode) (ops : Array Oper) (listed : Array Bool) : Prop :=
  ∀ j o, ops[j]? = some o → listed.getD j true = true → ∀ e ∈ o.after, Region.binds md e = true → listed.getD e.on false = true

theorem set_keeps (listed : Array Bool) (j x : Nat) (h : listed.getD x false = true) : (listed.setIfInBounds j true).getD x false = true := by
  by_cases e : j = x
  · subst e
    by_cases hlt : j < listed.size
    · simp [hlt]
    · simp [Array.getElem?_eq_none (Nat.le_of_not_lt hlt)] at h
  · rw [getD_set_ne false e]
    exact h

theorem clos_start (n : Nat) (hn : ops.size = n) : Clos md ops (Array.replicate n false) := by
  intro j o ho hj
  have hlt : j < n := by rw [← hn]; exact (Array.getElem?_eq_some_iff.1 ho).1
  simp [hlt] at hj

theorem clos_next {listed : Array Bool} {j : Nat} (h : Clos md ops listed) (hj : j ∈ Region.ready md ops listed) : Clos md ops (listed.setIfInBounds j true) := by
  obtain ⟨_, oj, hoj, hdone⟩ := mem_ready.1 hj
  intro k o ho hk e he hb
  refine set_keeps _ _ _ ?_
  by_cases hkj : j = k
  · subst hkj
    rw [hoj] at ho
    cases ho
    exact hdone e he hb
  · rw [getD_set_ne true hkj] at hk
    exact h k o ho hk e he hb

def waitsB (md : Region.Mode) (ops : Array Oper) (i : Nat) : Nat → Nat → Bool
  | 0, _ => false
  | f + 1, j => match ops[j]? with
    | none => false
    | some o => o.after.any fun e => Region.binds md e && (e.on == i || waitsB md ops i f e.on)

theorem getD_true_of_false {listed : Array Bool} {x : Nat} (h : listed.getD x false = true) : listed.getD x true = true := by
  by_cases hlt : x < listed.size
  · simp [hlt] at h ⊢; exact h
  · simp [Array.getElem?_eq_none (Nat.le_of_not_lt hlt)]

theorem waits_listed {listed : Array Bool} {i : Nat} (hc : Clos md ops listed) : ∀ f j o, ops[j]? = some o → (∀ e ∈ o.after, Region.binds md e = true → listed.getD e.on false = true) → waitsB md ops i f j = true → listed.getD i true = true
  | 0, _, _, _, _, h => by cases h
  | f + 1, j, o, ho, hdone, h => by
    simp only [waitsB, ho, Array.any_eq_true'] at h
    obtain ⟨e, he, hb⟩ := h
    simp only [Bool.and_eq_true, Bool.or_eq_true, beq_iff_eq] at hb
    have hl := hdone e he hb.1
    rcases hb.2 with e1 | h2
    · rw [← e1]; exact getD_true_of_false hl
    · cases ho' : ops[e.on]? with
      | none =>
        cases f with
        | zero => cases h2
        | succ f => simp [waitsB, ho'] at h2
      | some o' => exact waits_listed hc f e.on o' ho' (hc e.on o' ho' (getD_true_of_false hl)) h2

def lastB (md : Region.Mode) (ops : Array Oper) (m : Nat) : Bool :=
  Region.noSelect ops && (ops.size == m + 1) && lexBut md ops m m 0 (Array.replicate (m + 1) false) && (List.range m).all fun i => waitsB md ops i (m + 1) m

theorem any_of_but {R : Act → Prop} {Q : Exit → Act → World → Prop} {m : Nat} (hsize : ops.size = m + 1) (hwait : ∀ i, i < m → waitsB md ops i (m + 1) m = true)
    (hlast : ∀ a w, C w → R a → wpOp P ops Q m (fun a' w' => Q .normal a' w') a w) :
    ∀ (f : Nat) (listed : Array Bool) (a : Act) (w : World), Clos md ops listed → C w → anyBut P md ops C m R f listed a → wpAny P md ops Q (f + 1) listed a w := by
  have others : ∀ listed, Clos md ops listed → m ∈ Region.ready md ops listed → ∀ i, i < m → listed.getD i true = true := fun listed hc hm i hi => by
    obtain ⟨_, o, ho, hdone⟩ := mem_ready.1 hm
    exact waits_listed hc (m + 1) m o ho hdone (hwait i hi)
  have below : ∀ listed i, i ∈ Region.ready md ops listed → i ≤ m := fun listed i hi => by
    obtain ⟨_, o, ho, _⟩ := mem_ready.1 hi
    have := (Array.getElem?_eq_some_iff.1 ho).1
    omega
  intro f
  induction f with
  | zero =>
    intro listed a w hc hw ⟨hm, hall, hR⟩
    refine ⟨fun h => (by rw [h] at hm; cases hm), fun i hi => ?_⟩
    have e := hall i hi
    subst e
    refine wpOp_mono (fun a' w' h => ⟨?_, h⟩) (hlast a w hw hR)
    rw [List.eq_nil_iff_forall_not_mem]
    intro j hj
    have hjm := below _ j hj
    have hju := (mem_ready.1 hj).1
    by_cases ej : i = j
    · subst ej
      have hi0 := (mem_ready.1 hm).1
      by_cases hlt : i < listed.size
      · simp [hlt] at hju
      · simp [Array.getElem?_eq_none (Nat.le_of_not_lt hlt)] at hi0
    · rw [getD_set_ne true ej, others listed hc hm j (by omega)] at hju
      cases hju
  | succ f ih =>
    intro listed a w hc hw ⟨⟨x, hx, hxm⟩, hall⟩
    refine ⟨fun h => (by rw [h] at hx; cases hx), fun i hi => ?_⟩
    by_cases e : i = m
    · subst e
      have hxu := (mem_ready.1 hx).1
      rw [others listed hc hi x (by have := below _ x hx; omega)] at hxu
      cases hxu
    · exact wpOp_of_qOp hw (fun a' w' hw' h => ih _ a' w' (clos_next hc hi) hw' h) (hall i hi e)

theorem wp_region_last {id : Nat} {Q : Exit → Act → World → Prop} {a : Act} {w : World} {l : List Oper} (m : Nat) (o : Oper) (hm : P.follows .mixedOrders = true) (hB : lastB .any l.toArray m = true) (ho : l[m]? = some o) (hg : o.guard = none)
    (h : wpQuiet P l.toArray (fun w' => ∃ n, w' = w.drewN n) (fun a' => ∀ n, o.wp P a' (w.drewN n) (fun a'' w'' => Q .normal a'' w'') Q) (l.take m) a) : (Code.region id l.toArray true).wp P Q a w := by
  simp only [lastB, Bool.and_eq_true, List.all_eq_true, List.mem_range, beq_iff_eq] at hB
  obtain ⟨⟨⟨hs, hsize⟩, hlex⟩, hwait⟩ := hB
  have hlen : (l.take m).length = m := by
    have : l.length = m + 1 := by simpa using hsize
    simp
    omega
  have hbut : anyBut P .any l.toArray (fun w' => ∃ n, w' = w.drewN n) m (fun a' => ∀ n, o.wp P a' (w.drewN n) (fun a'' w'' => Q .normal a'' w'') Q) (l.take m).length (Array.replicate (m + 1) false) a :=
    anyBut_lex hs (l.take m) 0 _ a (fun j hj => by simp [List.getElem?_take]; intro hh; rw [hlen] at hj; omega) (by rw [hlen]; exact hlex) h
  refine wp_region_any hm ?_
  rw [hsize]
  rw [hlen] at hbut
  refine any_of_but hsize hwait (fun a' w' hw' hR => ?_) m _ a _ (clos_start (m + 1) hsize) ⟨1, rfl⟩ hbut
  obtain ⟨n, rfl⟩ := hw'
  have ho' : l.toArray[m]? = some o := by simpa using ho
  unfold wpOp
  simp only [ho', Region.wanted, hg, if_true]
  exact Or.inl (hR n)

end
end Go.Proofs.Ytgahdclbaifcbaa

namespace Go.Proofs.Ytgahdclbaifcbaa
open Go.RowKit

theorem bf_start (w : World) (G : Nat) :
    Bf w (((w.alloc (.cells #[.slice (some ⟨w.heap.size + 1 + 1, 0, none⟩) G G] 22)).alloc (.cells #[.slice none 0 0] 22)).alloc (.cells (madeCells #[.int .i64 0] G) 3)) G (fun _ => 0) [] (.slice none 0 0) := by
  have one : ∀ (v : Value) (i : Nat), i < (#[v] : Array Value).size → (#[v] : Array Value)[i]? = some v := fun v i hi => by
    have : i = 0 := by simpa using hi
    subst this
    rfl
  have h1 := World.rowIs_alloc w #[.slice (some ⟨w.heap.size + 1 + 1, 0, none⟩) G G] 22 (fun _ => .slice (some ⟨w.heap.size + 1 + 1, 0, none⟩) G G) (one _)
  have h2 := World.rowIs_alloc (w.alloc (.cells #[.slice (some ⟨w.heap.size + 1 + 1, 0, none⟩) G G] 22)) #[.slice none 0 0] 22 (fun _ => .slice none 0 0) (one _)
  have h3 := World.rowIs_made ((w.alloc (.cells #[.slice (some ⟨w.heap.size + 1 + 1, 0, none⟩) G G] 22)).alloc (.cells #[.slice none 0 0] 22)) (.int .i64 0) G 3
  refine ⟨(((Below.refl _ _).alloc (Nat.le_refl _) _).alloc (by simp) _).alloc (by simp; omega) _, (h1.alloc _).alloc _, ?_, ?_, World.ownsRow_nil _ _ _ _⟩
  · have := h2.alloc (.cells (madeCells #[.int .i64 0] G) 3)
    simpa using this
  · simpa using h3

theorem Bf.congrF {w wr : World} {G : Nat} {F F' : Nat → Int} {O : List Int} {v : Value} (h : Bf w wr G F O v) (e : ∀ i, i < G → F i = F' i) : Bf w wr G F' O v :=
  ⟨h.below, h.farv, h.ordv, h.far.congr (fun i hi => by rw [e i hi]), h.own⟩

theorem Bf.drewN {w wr : World} {G : Nat} {F : Nat → Int} {O : List Int} {v : Value} (h : Bf w wr G F O v) (q : Nat) : Bf w (wr.drewN q) G F O v :=
  ⟨h.below.trans ⟨rfl, rfl, rfl, Nat.le_refl _, fun _ _ => rfl⟩, h.farv, h.ordv, h.far, h.own⟩

/-- 'return': both variables are stored into themselves. -/
theorem Bf.again {w wr : World} {G : Nat} {F : Nat → Int} {O : List Int} {v : Value} (h : Bf w wr G F O v) :
    Bf w ((wr.setCell ⟨w.heap.size, 0, none⟩ (.slice (some ⟨w.heap.size + 1 + 1, 0, none⟩) G G)).setCell ⟨w.heap.size + 1, 0, none⟩ v).drew G F O v := by
  refine ⟨((h.below.setCell (Nat.le_refl _) _).setCell (by show w.heap.size ≤ w.heap.size + 1; omega) _).drew, (((h.farv.set 0 _).congr (fun i hi => ?_)).setOther (by show w.heap.size ≠ w.heap.size + 1; omega) _).drew,
    (((h.ordv.setOther (by show w.heap.size + 1 ≠ w.heap.size; omega) _).set 0 _).congr (fun i hi => ?_)).drew, ((h.far.setOther (by show w.heap.size + 1 + 1 ≠ w.heap.size; omega) _).setOther (by show w.heap.size + 1 + 1 ≠ w.heap.size + 1; omega) _).drew,
    ownsRow_setCell_below (ownsRow_setCell_below h.own (by show w.heap.size < w.heap.size + 1 + 1 + 1; omega) _) (by show w.heap.size + 1 < w.heap.size + 1 + 1 + 1; omega) _⟩
  · have : i = 0 := by omega
    simp [this]
  · have : i = 0 := by omega
    simp [this]

/-- One may go from x to y. -/
def Ed (G : Nat) (L : Nat → Nat) (Z : Nat → Nat → Int) (x y : Nat) : Prop := x < G ∧ has (L x) (Z x) y = true
/-- x stands in the list. -/
def Src (n : Nat) (Z : Nat → Int) (x : Nat) : Prop := has n Z x = true

theorem sc_has_iff {n : Nat} {Z : Nat → Int} {x : Int} : has n Z x = true ↔ ∃ i, i < n ∧ Z i = x := by unfold has; rw [decide_eq_true_eq]

set_option maxHeartbeats 1000000 in
theorem dist_any (ga : Option Addr) (G gc : Nat) (L : Nat → Nat) (Z : Nat → Nat → Int) (a : Option Addr) (n c : Nat) (Y : Nat → Int) (w : World) (hL : ∀ r, r < G → L r ≤ 140737488355328) (hn : n ≤ 140737488355328) (h : Gr w ga G L Z)
    (h0 : errG G L Z = 0) (hrow : Row w a n Y) (hin : ∀ i, i < n → 0 ≤ Y i ∧ Y i < G) :
    Calls Try.prog 49 #[.slice ga G gc, .slice a n c] w fun e w' => ∃ F O v, e = .returned (.tuple #[.slice (some ⟨w.heap.size + 1 + 1, 0, none⟩) G G, v]) ∧ Dist G (Src n Y) (Ed G L Z) F O ∧ Bf w w' G F O v := by
  obtain ⟨hG, hall⟩ := errG_zero h0
  have HA : Hid (∀ r, r < G → ∀ i, i < L r → 0 ≤ Z r i ∧ Z r i < G) := hall
  have HL : Hid (∀ r, r < G → L r ≤ 140737488355328) := hL
  have HG : Hid (Gr w ga G L Z) := h
  have HR : Hid (Row w a n Y) := hrow
  have HN : Hid (∀ i, i < n → 0 ≤ Y i ∧ Y i < G) := hin
  clear hL h h0 hrow hin hall
  have hmk := run_make_row' (P := Try.prog) 22 3 (.int .i64 0) 8 Try.underlying22 Try.info3 rfl .i64 .i64 G (by omega) (by omega)
  go_enter Try.func49, Try.ntmps49
  go_wp2
  clear hmk
  go_loopw [14] (fun i wr => ∃ k : Nat, k ≤ G ∧ i = .int .i64 k ∧ Bf w wr G (fun x => if x < k then -1 else 0) [] (.slice none 0 0)) (fun i _ => G - (intOf i).toNat)
  case atStart => exact ⟨0, Nat.zero_le _, rfl, bf_start w G⟩
  case round =>
    obtain ⟨k, hk, rfl, hB⟩ := hrel
    have HB : Hid (Bf w wr G (fun x => if x < k then -1 else 0) [] (.slice none 0 0)) := hB
    have hfv := hB.farv.cell (i := 0) (by omega)
    clear hB
    by_cases hlt : k < G
    · have hft := HB.out.far.cell hlt
      have hff := HB.out.far.frozen k
      go_wp2
      go_roundw
      case rel =>
        refine ⟨k + 1, by omega, by go_num, (HB.out.setFar k (-1)).congrF (fun i hi => ?_)⟩
        show sc_upd (fun x => if x < k then -1 else 0) k (-1) i = if i < k + 1 then -1 else 0
        by_cases e : i = k
        · subst e; rw [upd_at, if_pos (by omega)]
        · rw [upd_ne _ _ _ _ e]
          show (if i < k then (-1 : Int) else 0) = if i < k + 1 then -1 else 0
          by_cases e2 : i < k
          · rw [if_pos e2, if_pos (by omega)]
          · rw [if_neg e2, if_neg (by omega)]
      case measure => simp [intOf]; omega
    · have hB2 := HB.out.congrF (F' := fun _ => -1) (fun i hi => by rw [if_pos (by omega)])
      have HB2 : Hid (Bf w wr G (fun _ => -1) [] (.slice none 0 0)) := hB2
      clear hB2 HB hfv
      go_wp2_with fail
      have hwk : ∀ i, i < n → 0 ≤ Y i ∧ Y i < G ∧ Src n Y (Y i).toNat := fun i hi => by
        have := HN.out i hi
        refine ⟨this.1, this.2, sc_has_iff.2 ⟨i, hi, by omega⟩⟩
      have hlen : ∀ k, k ≤ n → ∀ F O, (F, O) = meetTo 0 Y k (fun _ => -1, []) → O.length ≤ G := fun k hk F O e =>
        (meetTo_all (inv_start G (Src n Y) (Ed G L Z)) (Int.le_refl _) (Int.le_refl _) Y k (fun i hi => hwk i (by omega)) F O e).1.len
      refine (meet_any w wr G (fun _ => -1) [] (.slice none 0 0) a n c Y 0 hG hn HR.out HN.out hlen HB2.out).mono ?_
      rintro e w1 ⟨rfl, F, O, v, hs, hB⟩
      have hH : Head G (Src n Y) (Ed G L Z) 0 F O := Head.start hwk (fun x hx _ => by obtain ⟨i, hi, e⟩ := sc_has_iff.1 hx; exact ⟨i, hi, by omega⟩) hs
      have HX : Hid (∃ F O v, Head G (Src n Y) (Ed G L Z) 0 F O ∧ Bf w w1 G F O v) := ⟨F, O, v, hH, hB⟩
      clear hs hB hH hlen hwk HB2
      go_wp2
      go_loopw [8] (fun i wr => ∃ k : Nat, k ≤ G ∧ i = .int .i64 k ∧ Hid (∃ F O v, Head G (Src n Y) (Ed G L Z) k F O ∧ Bf w wr G F O v)) (fun i _ => G - (intOf i).toNat)
      case atStart => exact ⟨0, Nat.zero_le _, rfl, HX⟩
      case round =>
        obtain ⟨k, hk, rfl, hX⟩ := hrel
        clear HX
        obtain ⟨F, O, v, hH, hB⟩ := hX.out
        clear hX
        have HH : Hid (Head G (Src n Y) (Ed G L Z) k F O) := hH
        have HB : Hid (Bf w wr G F O v) := hB
        have hol := hH.len
        obtain ⟨a2, c2, hv, hrow2⟩ := owns_row hB.own
        have hov := hB.ordv.cell (i := 0) (by omega)
        rw [hv] at hov
        have HV : Hid (v = .slice a2 O.length c2) := hv
        have HR2 : Hid (Row wr a2 O.length (fun i => O.getD i 0)) := hrow2
        clear hH hB hv hrow2
        generalize hmm : O.length = m at *
        have HM : Hid (O.length = m) := hmm
        clear hmm
        by_cases hlt : k < m
        · have hkm : (k : Int) < m := by omega
          obtain ⟨x, hx, ex, x0, xi, hI, hw⟩ := HH.out.node (by rw [HM.out]; exact hlt)
          have EX : Hid (O.getD k 0 = (x : Int)) := ex
          have HIv : Hid (Inv G (Src n Y) (Ed G L Z) (F x + 1) F O ∧ Wk (Src n Y) (Ed G L Z) (F x).toNat x) := ⟨hI, hw⟩
          clear ex hI hw
          obtain ⟨b2, o2, ha2, hc2⟩ := HR2.out
          obtain rfl := ha2 (by omega)
          have hxc : wr.cell? ⟨b2, o2 + k, none⟩ = some (.int .i64 x) := by rw [hc2 k hlt]; exact congrArg (fun z => some (Value.int .i64 z)) EX.out
          clear hc2 ha2
          have hxz : (x : Int) < G := by omega
          have hfv := HB.out.farv.cell (i := 0) (by omega)
          have hfx := HB.out.far.cell hx
          obtain ⟨b3, o3, ha3, hc3⟩ := HG.out
          obtain rfl := ha3 (by omega)
          obtain ⟨a4, c4, hg0, hr0⟩ := hc3 x hx
          have hgx : wr.cell? ⟨b3, o3 + x, none⟩ = some (.slice a4 (L x) c4) := by
            rw [HB.out.below.cell (p := ⟨b3, o3 + x, none⟩) (World.block_lt_of_cell? _ _ hg0)]; exact hg0
          have HR4 : Hid (Row w a4 (L x) (Z x)) := hr0
          clear hg0 hr0 hc3 ha3
          have hLx := HL.out x hx
          have hzx : ∀ i, i < L x → 0 ≤ Z x i ∧ Z x i < G := HA.out x hx
          have hwk : ∀ i, i < L x → 0 ≤ Z x i ∧ Z x i < G ∧ Wk (Src n Y) (Ed G L Z) (F x + 1).toNat (Z x i).toNat := fun i hi => by
            have := hzx i hi
            refine ⟨this.1, this.2, ?_⟩
            have e : (F x + 1).toNat = (F x).toNat + 1 := by omega
            rw [e]
            exact ⟨x, HIv.out.2, hx, sc_has_iff.2 ⟨i, hi, by omega⟩⟩
          have hlen : ∀ k, k ≤ L x → ∀ F' O', (F', O') = meetTo (F x + 1) (Z x) k (F, O) → O'.length ≤ G := fun k hk F' O' e =>
            (meetTo_all HIv.out.1 (by omega) (by have := HM.out; omega) (Z x) k (fun i hi => hwk i (by omega)) F' O' e).1.len
          have HC : Hid (∀ q, Calls Try.prog 64 #[.slice a4 (L x) c4, .int .i64 (F x + 1), .pointer (some ⟨w.heap.size, 0, none⟩), .pointer (some ⟨w.heap.size + 1, 0, none⟩)] (wr.drewN q) fun e w' => e = .returned (.tuple #[]) ∧ ∃ F' O' v', (F', O') = meetTo (F x + 1) (Z x) (L x) (F, O) ∧ Bf w w' G F' O' v') :=
            fun q => meet_any w (wr.drewN q) G F O v a4 (L x) c4 (Z x) (F x + 1) hG hLx HR4.out hzx hlen (HB.out.drewN q)
          clear hwk hlen hzx
          go_wp2_with fail
          refine wp_region_last 16 _ (by kernel_rfl) (by kernel_rfl) rfl rfl ?_
          simp only [List.take]
          repeat (go_big_quiet_step (fail))
          refine wpQuiet_nil ?_
          intro nq
          go_wp2_with fail
          refine (HC.out nq).mono ?_
          rintro e w2 ⟨rfl, F', O', v', hs, hB⟩
          have HN2 : Hid (∃ F O v, Head G (Src n Y) (Ed G L Z) (k + 1) F O ∧ Bf w w2 G F O v) :=
            ⟨F', O', v', HH.out.next (by rw [HM.out]; exact hlt) hx EX.out (fun i hi => by
              have := HA.out x hx i hi
              exact ⟨this.1, this.2, hx, sc_has_iff.2 ⟨i, hi, by omega⟩⟩) (fun y hy _ => by
              obtain ⟨i, hi, e⟩ := sc_has_iff.1 hy.2
              exact ⟨i, hi, by omega⟩) hs, hB⟩
          clear hs hB HC HIv HH HB HV HR2 HR4 hov hxc hgx hfv hfx
          go_wp2
          go_roundw
          case rel => exact ⟨k + 1, by omega, by go_num, HN2⟩
          case measure => simp [intOf]; omega
        · have hfv := HB.out.farv.cell (i := 0) (by omega)
          have hff := HB.out.farv.frozen 0
          have hof := HB.out.ordv.frozen 0
          go_wp2_with fail
          go_region
          have hB3 := HB.out.again
          rw [HV.out] at hB3
          have HB3 : Hid (Bf w ((wr.setCell ⟨w.heap.size, 0, none⟩ (.slice (some ⟨w.heap.size + 1 + 1, 0, none⟩) G G)).setCell ⟨w.heap.size + 1, 0, none⟩ (.slice a2 m c2)).drew G F O (.slice a2 m c2)) := hB3
          have hq1 : ((wr.setCell ⟨w.heap.size, 0, none⟩ (.slice (some ⟨w.heap.size + 1 + 1, 0, none⟩) G G)).setCell ⟨w.heap.size + 1, 0, none⟩ (.slice a2 m c2)).cell? ⟨w.heap.size, 0, none⟩ = some (.slice (some ⟨w.heap.size + 1 + 1, 0, none⟩) G G) := hB3.farv.cell (i := 0) (by omega)
          have hq2 : ((wr.setCell ⟨w.heap.size, 0, none⟩ (.slice (some ⟨w.heap.size + 1 + 1, 0, none⟩) G G)).setCell ⟨w.heap.size + 1, 0, none⟩ (.slice a2 m c2)).cell? ⟨w.heap.size + 1, 0, none⟩ = some (.slice a2 m c2) := hB3.ordv.cell (i := 0) (by omega)
          clear hB3
          go_wp2
          refine bodyPost_ret (v := .tuple #[.slice (some ⟨w.heap.size + 1 + 1, 0, none⟩) G G, .slice a2 m c2]) ?_ rfl ⟨F, O, _, rfl, HH.out.dist (by rw [HM.out]; exact hlt) (fun x y h => h.1), HB3.out⟩
          simp [results, Try.results49, go_sem, hq1, hq2]

end Go.Proofs.Ytgahdclbaifcbaa

namespace Go.Proofs.Ytgahdclbaifcbaa
open Go.RowKit

theorem Try.scinfo4 : (Try.prog.info? 4).map (fun i => (i.zero, i.size, i.bytes)) = some (some (.bool false), 1, 1) := by kernel_rfl

def errF (G : Nat) (L : Nat → Nat) (Z : Nat → Nat → Int) (n : Nat) (Y : Nat → Int) : Int := if errG G L Z = 0 then (if allIn n Y G = true then 0 else 1) else errG G L Z

theorem errF_zero {G : Nat} {L : Nat → Nat} {Z : Nat → Nat → Int} {n : Nat} {Y : Nat → Int} (h : errF G L Z n Y = 0) : errG G L Z = 0 ∧ ∀ i, i < n → 0 ≤ Y i ∧ Y i < G := by
  unfold errF at h
  by_cases h1 : errG G L Z = 0
  · rw [if_pos h1] at h
    by_cases h2 : allIn n Y G = true
    · exact ⟨h1, allIn_all h2⟩
    · rw [if_neg h2] at h; cases h
  · rw [if_neg h1] at h
    exact absurd h h1

set_option maxHeartbeats 400000 in
theorem checkFrom_any (ga : Option Addr) (G gc : Nat) (L : Nat → Nat) (Z : Nat → Nat → Int) (a : Option Addr) (n c : Nat) (Y : Nat → Int) (w : World) (hL : ∀ r, r < G → L r ≤ 140737488355328) (hn : n ≤ 140737488355328) (h : Gr w ga G L Z) (hrow : Row w a n Y) :
    Calls Try.prog 48 #[.slice ga G gc, .slice a n c] w fun e w' => e = .returned (.int .i64 (errF G L Z n Y)) ∧ w' = w := by
  have C11 : Hid (Calls Try.prog 46 #[.slice ga G gc] w fun e w' => e = .returned (.int .i64 (errG G L Z)) ∧ w' = w) := check_any ga G gc L Z w hL h
  have C28 : Hid (Calls Try.prog 63 #[.slice ga G gc, .slice a n c] w fun e w' => e = .returned (.bool (allIn n Y G)) ∧ w' = w) := areNodes_any ga G gc a n c Y w hn hrow
  have HF : Hid (errF G L Z n Y = if errG G L Z = 0 then (if allIn n Y G = true then 0 else 1) else errG G L Z) := rfl
  generalize errF G L Z n Y = F at *
  generalize errG G L Z = E at *
  clear h hrow hL
  by_cases h0 : E = 0
  · subst h0
    cases hb : allIn n Y G
    · rw [hb] at C28
      have HF' : Hid (F = 1) := by have := HF.out; rw [hb] at this; exact this
      clear HF hb
      go_enter Try.func48, Try.ntmps48
      go_wp2_with fail
      refine C11.out.mono ?_
      rintro e w' ⟨rfl, rfl⟩
      go_wp2_with fail
      refine C28.out.mono ?_
      rintro e w' ⟨rfl, rfl⟩
      go_wp2
      go_ret
      exact ⟨ret_int HF'.out.symm, rfl⟩
    · rw [hb] at C28
      have HF' : Hid (F = 0) := by have := HF.out; rw [hb] at this; exact this
      clear HF hb
      go_enter Try.func48, Try.ntmps48
      go_wp2_with fail
      refine C11.out.mono ?_
      rintro e w' ⟨rfl, rfl⟩
      go_wp2_with fail
      refine C28.out.mono ?_
      rintro e w' ⟨rfl, rfl⟩
      go_wp2
      go_ret
      exact ⟨ret_int HF'.out.symm, rfl⟩
  · have HF' : Hid (F = E) := by have := HF.out; rw [if_neg h0] at this; exact this
    have hz : (E != 0) = true := by rw [bne_iff_ne]; exact h0
    clear HF h0
    go_enter Try.func48, Try.ntmps48
    go_wp2_with fail
    refine C11.out.mono ?_
    rintro e w' ⟨rfl, rfl⟩
    go_wp2
    go_ret
    exact ⟨ret_int HF'.out.symm, rfl⟩

/-- One comes to x. -/
def Comes (G : Nat) (L : Nat → Nat) (Z : Nat → Nat → Int) (n : Nat) (Y : Nat → Int) (x : Nat) : Prop := ∃ k, Wk (Src n Y) (Ed G L Z) k x

theorem Dist.comes {G : Nat} {L : Nat → Nat} {Z : Nat → Nat → Int} {n : Nat} {Y : Nat → Int} {F : Nat → Int} {O : List Int} (h : Dist G (Src n Y) (Ed G L Z) F O) {x : Nat} (hx : x < G) : (F x != -1) = true ↔ Comes G L Z n Y x := by
  rw [bne_iff_ne]
  exact ⟨fun hh => ⟨_, h.snd x hx hh⟩, fun ⟨k, hk⟩ => (h.all k x hx hk).1⟩

set_option maxHeartbeats 1000000 in
theorem reach_ok (ga : Option Addr) (G gc : Nat) (L : Nat → Nat) (Z : Nat → Nat → Int) (a : Option Addr) (n c : Nat) (Y : Nat → Int) (w : World) (hL : ∀ r, r < G → L r ≤ 140737488355328) (hn : n ≤ 140737488355328) (h : Gr w ga G L Z) (hrow : Row w a n Y)
    (h0 : errF G L Z n Y = 0) :
    Calls Try.prog 28 #[.slice ga G gc, .slice a n c] w fun e w' => ∃ (b : Nat) (R : Nat → Bool), e = .returned (.tuple #[.slice (some ⟨b, 0, none⟩) G G, .int .i64 0]) ∧ Below w.heap.size w w' ∧ w.heap.size ≤ b ∧ w'.rowIs b 4 G (fun i => .bool (R i)) ∧
      ∀ x, x < G → (R x = true ↔ Comes G L Z n Y x) := by
  have C33 : Hid (Calls Try.prog 48 #[.slice ga G gc, .slice a n c] w fun e w' => e = .returned (.int .i64 0) ∧ w' = w) := by
    have := checkFrom_any ga G gc L Z a n c Y w hL hn h hrow
    rwa [h0] at this
  obtain ⟨hg, hin⟩ := errF_zero h0
  have hG := (errG_zero hg).1
  have C34 : Hid (Calls Try.prog 49 #[.slice ga G gc, .slice a n c] w fun e w' => ∃ F O v, e = .returned (.tuple #[.slice (some ⟨w.heap.size + 1 + 1, 0, none⟩) G G, v]) ∧ Dist G (Src n Y) (Ed G L Z) F O ∧ Bf w w' G F O v) := dist_any ga G gc L Z a n c Y w hL hn h hg hrow hin
  clear h hrow hL hg hin h0
  have hmk := run_make_row' (P := Try.prog) 29 4 (.bool false) 1 Try.underlying29 Try.scinfo4 rfl .i64 .i64 G (by omega) (by omega)
  go_enter Try.func28, Try.ntmps28
  go_wp2_with fail
  refine C33.out.mono ?_
  rintro e w' ⟨rfl, rfl⟩
  go_wp2_with fail
  refine C34.out.mono ?_
  rintro e w1 ⟨F, O, v, rfl, hD, hB⟩
  have HD : Hid (Dist G (Src n Y) (Ed G L Z) F O) := hD
  have HB : Hid (Bf w' w1 G F O v) := hB
  clear hD hB C33 C34
  go_wp2
  clear hmk
  go_loopw [29] (fun i wr => ∃ k : Nat, k ≤ G ∧ i = .int .i64 k ∧ Below w1.heap.size w1 wr ∧ wr.rowIs w1.heap.size 4 G (fun x => .bool (if x < k then F x != -1 else false))) (fun i _ => G - (intOf i).toNat)
  case atStart => exact ⟨0, Nat.zero_le _, rfl, (Below.refl _ _).alloc (Nat.le_refl _) _, World.rowIs_made w1 (.bool false) G 4⟩
  case round =>
    obtain ⟨k, hk, rfl, hbel, hrw⟩ := hrel
    have HW : Hid (Below w1.heap.size w1 wr ∧ wr.rowIs w1.heap.size 4 G (fun x => .bool (if x < k then F x != -1 else false))) := ⟨hbel, hrw⟩
    clear hbel hrw
    by_cases hlt : k < G
    · have hf : wr.cell? ⟨w'.heap.size + 1 + 1, k, none⟩ = some (.int .i64 (F k)) := by
        rw [HW.out.1.cell (p := ⟨w'.heap.size + 1 + 1, k, none⟩) HB.out.far.lt]; exact HB.out.far.cell hlt
      have hc := HW.out.2.cell hlt
      have hz := HW.out.2.frozen k
      go_wp2
      go_roundw
      case rel =>
        refine ⟨k + 1, by omega, by go_num, HW.out.1.setCell (Nat.le_refl _) _, (HW.out.2.set k _).congr (fun i hi => ?_)⟩
        by_cases e : i = k
        · subst e; simp
        · rw [if_neg e]
          by_cases e2 : i < k
          · rw [if_pos e2, if_pos (by omega)]
          · rw [if_neg e2, if_neg (by omega)]
      case measure => simp [intOf]; omega
    · go_wp2
      go_ret2
      have hs := HB.out.below.size
      exact ⟨w1.heap.size, fun x => F x != -1, rfl, HB.out.below.trans (HW.out.1.mono hs), hs, HW.out.2.congr (fun i hi => by rw [if_pos (by omega)]), fun x hx => HD.out.comes hx⟩

end Go.Proofs.Ytgahdclbaifcbaa
