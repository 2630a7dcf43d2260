/- The law GraphOwn, walked: facts on the memory of its lists. -/
import Derived.Test.YtddingbfjkmdeaaOwn
import Derived.Test.YtddingbfjkmdeaaSccJoinedWalk
namespace Go.Proofs.Ytddingbfjkmdeaa
open Go.RowKit

theorem ownsRow_of_block {w w' : World} {B s n : Nat} {e : TypeId} {v : Value} {xs : List Value} (h : w.ownsRow B e s v n xs) (hb : ∀ k, B ≤ k → k < w.heap.size → w'.heap[k]? = w.heap[k]?) : w'.ownsRow B e s v n xs := by
  refine ⟨h.1, ?_⟩
  rcases h.2 with h0 | ⟨g, cap, cur, h1, h2, h3, h4⟩
  · exact Or.inl h0
  · exact Or.inr ⟨g, cap, cur, h1, h2, (hb g h2 (Array.getElem?_eq_some_iff.1 h3).1).trans h3, h4⟩

theorem Rm.mono {w : World} {B B' n : Nat} {v : Value} {Z : Nat → Int} (h : Rm w B v n Z) (hB : B' ≤ B) : Rm w B' v n Z := by
  obtain ⟨g, cap, cur, hv, hb, hrest⟩ := h
  exact ⟨g, cap, cur, hv, Nat.le_trans hB hb, hrest⟩

theorem Rm.grow {w1 w2 : World} {B n : Nat} {v : Value} {Z : Nat → Int} {o : Obj} {row : Option Nat} (h : Rm w1 B v n Z) (hg : (w1.alloc o).grownBy w2 row) (hrow : ∀ s, row = some s → ∃ c, w1.heap[s]? = some (.cells c 28 (0, 0))) : Rm w2 B v n Z := by
  obtain ⟨g, cap, cur, hv, hb, h3, hrest⟩ := h
  have hlt := (Array.getElem?_eq_some_iff.1 h3).1
  refine ⟨g, cap, cur, hv, hb, ?_, hrest⟩
  rw [((World.grownBy_alloc w1 o row).trans hg).block g hlt (fun e => ?_)]
  · exact h3
  · obtain ⟨c, hc⟩ := hrow g e.symm
    rw [h3] at hc
    simp at hc

/-- The graph that is laid anew: k of its lists. -/
structure InS (w wr : World) (k : Nat) (v : Value) (VS : Nat → Value) (L : Nat → Nat) (Z : Nat → Nat → Int) : Prop where
  below : Below w.heap.size w wr
  own : wr.ownsRow w.heap.size 28 1 v k ((List.range k).map VS)
  rows : ∀ r, r < k → Rm wr w.heap.size (VS r) (L r) (Z r)

theorem ownBlock_block {w : World} {B n : Nat} {e : TypeId} {v : Value} {xs : List Value} (h : w.ownsRow B e 1 v n xs) : ∀ s, v.ownBlock = some s → ∃ c, w.heap[s]? = some (.cells c e (0, 0)) := by
  intro s hs
  rcases h.2 with ⟨rfl, _⟩ | ⟨g, cap, cur, rfl, h2, h3, _⟩
  · cases hs
  · cases hs
    exact ⟨cur, h3⟩

theorem InS.step {w wr w1 w2 : World} {k : Nat} {v v1 v2 : Value} {VS : Nat → Value} {L : Nat → Nat} {Z : Nat → Nat → Int} {o : Obj} (h : InS w wr k v VS L Z) (h1 : Rm w1 wr.heap.size v1 (L k) (Z k)) (hb1 : Below wr.heap.size wr w1)
    (hown : w2.ownsRow w.heap.size 28 1 v2 (k + 1) ((List.range k).map VS ++ [v1])) (hgrow : (w1.alloc o).grownBy w2 v.ownBlock) :
    (∃ a c, v2 = .slice a (k + 1) c) ∧ Hid (InS w w2 (k + 1) v2 (fun r => if r < k then VS r else v1) L Z) := by
  have ho1 : w1.ownsRow w.heap.size 28 1 v k ((List.range k).map VS) := ownsRow_of_block h.own (fun b _ hb => hb1.block b hb)
  have hblk := ownBlock_block ho1
  have hs := h.below.size
  have hg := (World.grownBy_alloc w1 o v.ownBlock).trans hgrow
  refine ⟨?_, hid ⟨?_, ?_, fun r hr => ?_⟩⟩
  · rcases hown.2 with ⟨_, h0⟩ | ⟨g, cap, cur, rfl, _⟩
    · omega
    · exact ⟨_, _, rfl⟩
  · exact (h.below.trans (hb1.mono hs)).grown hg (Nat.le_trans hs hb1.size) (fun b hb => (ho1.lt b hb).1)
  · have e : (List.range (k + 1)).map (fun r => if r < k then VS r else v1) = (List.range k).map VS ++ [v1] := by
      rw [List.range_succ, List.map_append]
      congr 1
      · exact List.map_congr_left (fun r hr => by rw [if_pos (List.mem_range.1 hr)])
      · simp
    rw [e]
    exact hown
  · by_cases e : r < k
    · simp only [e, if_true]
      exact ((h.rows r e).of_block hb1.block).grow hgrow hblk
    · obtain rfl : r = k := by omega
      simp only [e, if_false]
      exact (h1.mono hs).grow hgrow hblk

/-- G slices lie in a block of slices. -/
def Spine (w : World) (ga : Option Addr) (G : Nat) (V : Nat → Value) : Prop :=
  0 < G → ∃ b cs, ga = some ⟨b, 0, none⟩ ∧ w.heap[b]? = some (.cells cs 28 (0, 0)) ∧ ∀ r, r < G → cs[r]? = some (V r)

theorem InS.all {w wr : World} {G : Nat} {v : Value} {VS : Nat → Value} {L : Nat → Nat} {Z : Nat → Nat → Int} (h : InS w wr G v VS L Z) :
    ∃ ga gc, v = .slice ga G gc ∧ Spine wr ga G VS ∧ RmAll wr w.heap.size ga G L Z := by
  rcases h.own.2 with ⟨rfl, rfl⟩ | ⟨g, cap, cur, rfl, h2, h3, h4, h5, h6, h7⟩
  · exact ⟨none, 0, rfl, fun hh => absurd hh (Nat.lt_irrefl _), 0, 0, fun hh => absurd hh (Nat.lt_irrefl _), fun r hr => absurd hr (Nat.not_lt_zero _)⟩
  · have hget : ∀ r, r < G → cur[r]? = some (VS r) := fun r hr => by
      have : cur.toList[r]? = ((List.range G).map VS)[r]? := by
        rw [← h7, Nat.mul_one, List.getElem?_take_of_lt hr]
      rw [Array.getElem?_toList] at this
      rw [this]
      simp [hr]
    exact ⟨some ⟨g, 0, none⟩, cap, rfl, fun _ => ⟨g, cur, rfl, h3, hget⟩, g, 0, fun _ => rfl, fun r hr => ⟨VS r, by rw [Nat.zero_add]; exact cell_of_block h3 (hget r hr), h.rows r hr⟩⟩

theorem Rm.spo {w : World} {B n : Nat} {v : Value} {Z : Nat → Int} (h : Rm w B v n Z) {hi : Nat} (hs : w.heap.size ≤ hi) : Spo w B hi v := by
  obtain ⟨g, cap, cur, rfl, hb, hg, hle, hmax, hsz, _⟩ := h
  exact Or.inr ⟨g, n, cap, cur, rfl, hb, Nat.lt_of_lt_of_le (Array.getElem?_eq_some_iff.1 hg).1 hs, hg, by omega, hmax, hsz⟩

theorem owns_spo {w : World} {B n : Nat} {v : Value} {xs : List Value} (h : w.ownsRow B 3 1 v n xs) {hi : Nat} (hs : w.heap.size ≤ hi) : Spo w B hi v := by
  rcases h.2 with ⟨rfl, _⟩ | ⟨g, cap, cur, rfl, h2, h3, h4, h5, h6, _⟩
  · exact Or.inl rfl
  · exact Or.inr ⟨g, n, cap, cur, rfl, h2, Nat.lt_of_lt_of_le (Array.getElem?_eq_some_iff.1 h3).1 hs, h3, h4, h5, by omega⟩

theorem Spo.keep {w w' : World} {lo hi : Nat} {v : Value} (h : Spo w lo hi v) (e : ∀ k, lo ≤ k → k < hi → w'.heap[k]? = w.heap[k]?) : Spo w' lo hi v := by
  rcases h with h | ⟨g, n, cap, cur, h1, h2, h3, h4, h5⟩
  · exact Or.inl h
  · exact Or.inr ⟨g, n, cap, cur, h1, h2, h3, (e g h2 h3).trans h4, h5⟩

theorem Spine.keep {w w' : World} {ga : Option Addr} {G : Nat} {V : Nat → Value} (h : Spine w ga G V) (e : ∀ k, k < w.heap.size → w'.heap[k]? = w.heap[k]?) : Spine w' ga G V := by
  intro hG
  obtain ⟨b, cs, h1, h2, h3⟩ := h hG
  exact ⟨b, cs, h1, (e b (Array.getElem?_eq_some_iff.1 h2).1).trans h2, h3⟩

theorem Spine.spd {w w' : World} {ga : Option Addr} {G lo hi : Nat} {V : Nat → Value} (h : Spine w ga G V) (s : Spd lo hi w w') : Spine w' ga G V := by
  intro hG
  obtain ⟨b, cs, h1, h2, h3⟩ := h hG
  refine ⟨b, cs, h1, (s.other b (fun c hc => ?_)).trans h2, h3⟩
  rw [h2] at hc
  simp at hc

theorem Spd.trans {lo hi : Nat} {a b c : World} (h : Spd lo hi a b) (k : Spd lo hi b c) : Spd lo hi a c := by
  refine ⟨k.os.trans h.os, k.tape.trans h.tape, k.output.trans h.output, k.size.trans h.size, fun i hi => (k.out i hi).trans (h.out i hi), fun i hi => ?_, fun i x hx => ?_⟩
  · have e := h.other i hi
    rw [k.other i (fun x => by rw [e]; exact hi x), e]
  · obtain ⟨y, h1, h2⟩ := h.like i x hx
    obtain ⟨z, h3, h4⟩ := k.like i y h1
    exact ⟨z, h3, h4.trans h2⟩

theorem Spd.below {lo hi B : Nat} {a b : World} (h : Spd lo hi a b) (hB : B ≤ lo) : Below B a b := ⟨h.os, h.tape, h.output, by rw [h.size]; exact Nat.le_refl _, fun k hk => h.out k (Or.inl (by omega))⟩

theorem Fam.gr_of {w wr wr' : World} {G : Nat} {T : Nat → List Int} {V : Nat → Value} (h : Fam w wr G T V) (e : ∀ k, w.heap.size ≤ k → k < wr.heap.size → wr'.heap[k]? = wr.heap[k]?) :
    Gr wr' (some ⟨w.heap.size, 0, none⟩) G (fun j => (T j).length) (fun j i => (T j).getD i 0) := by
  have ht := h.top.of_block (e _ (Nat.le_refl _) h.top.lt)
  refine ⟨w.heap.size, 0, fun _ => rfl, fun r hr => ?_⟩
  obtain ⟨a, c, hv, hrow⟩ := owns_row (ownsRow_of_block (h.own r hr) (fun k hk hk' => e k (by omega) hk'))
  exact ⟨a, c, by rw [Nat.zero_add, ht.cell hr, hv], hrow⟩

theorem Fam.spine {w wr : World} {G : Nat} {T : Nat → List Int} {V : Nat → Value} (h : Fam w wr G T V) : Spine wr (some ⟨w.heap.size, 0, none⟩) G V := by
  intro _
  obtain ⟨c, h1, h2, h3⟩ := h.top
  exact ⟨_, c, rfl, h1, h3⟩

theorem one_gr (w : World) : Gr ((w.alloc (.cells #[.int .i64 0] 3)).alloc (.cells #[.slice (some ⟨w.heap.size, 0, none⟩) 1 1] 28)) (some ⟨w.heap.size + 1, 0, none⟩) 1 (fun _ => 1) (fun _ _ => 0) := by
  have h1 := rowIs_lit w #[.int .i64 0] 3 w.heap.size 1 (fun _ => .int .i64 0) rfl rfl (one_get _)
  have h4 := rowIs_lit (w.alloc (.cells #[.int .i64 0] 3)) #[.slice (some ⟨w.heap.size, 0, none⟩) 1 1] 28 (w.heap.size + 1) 1 (fun _ => .slice (some ⟨w.heap.size, 0, none⟩) 1 1) (by simp) rfl (one_get _)
  exact ⟨w.heap.size + 1, 0, fun _ => rfl, fun r hr => ⟨_, _, by rw [Nat.zero_add]; exact h4.cell hr, row_of_rowIs (h1.alloc _)⟩⟩

theorem one_err : errG 1 (fun _ => 1) (fun _ _ => 0) = 0 := by decide

theorem same_self (n : Nat) (Z : Nat → Int) : same n n Z Z = true := same_yes rfl (fun _ _ => rfl)
theorem sameG_self' (G : Nat) (L : Nat → Nat) (Z : Nat → Nat → Int) : sameG G G L L Z Z = true := sameG_yes rfl (fun _ _ => same_self _ _)

end Go.Proofs.Ytddingbfjkmdeaa
