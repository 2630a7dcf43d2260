/- LassoStutters: what its walk wants of memory. -/
import Derived.Test.YtejombhfkobcbaaDoorPla
import Derived.Test.YtejombhfkobcbaaDoorIns2
import Derived.Test.YtejombhfkobcbaaDoorSam
import Derived.Test.YtejombhfkobcbaaDoorNxt
namespace Go.Proofs.YtejombhfkobcbaaDoor
open Go.RowKit

theorem owns_base {w : World} {B base n : Nat} {e : TypeId} {v : Value} {xs : List Value} (h : w.ownsRow base e 1 v n xs) (hB : B ≤ base) : w.ownsRow B e 1 v n xs := by
  refine ⟨h.1, ?_⟩
  rcases h.2 with h0 | ⟨g, cap, cur, h1, h2, h3⟩
  · exact Or.inl h0
  · exact Or.inr ⟨g, cap, cur, h1, Nat.le_trans hB h2, h3⟩

theorem owns_frame {w w' : World} {base n : Nat} {e : TypeId} {v : Value} {xs : List Value} (h : w.ownsRow base e 1 v n xs) (hb : ∀ q, v.ownBlock = some q → w'.heap[q]? = w.heap[q]?) : w'.ownsRow base e 1 v n xs := by
  refine ⟨h.1, ?_⟩
  rcases h.2 with h0 | ⟨g, cap, cur, h1, h2, h3, h4⟩
  · exact Or.inl h0
  · exact Or.inr ⟨g, cap, cur, h1, h2, (hb g (by rw [h1]; rfl)).trans h3, h4⟩

/-- Both lists were copied into new memory, and the word laid in block b. -/
def Cln (z wc : World) (b : Nat) (a3 : Option Addr) (s c3 : Nat) (a4 : Option Addr) (m c4 : Nat) (S L : Nat → Int) : Prop :=
  Below z.heap.size z wc ∧ wc.heap[b]? = some (.cells #[.slice a3 s c3, .slice a4 m c4] 27 (0, 0)) ∧ z.heap.size ≤ b ∧
  wc.ownsRow z.heap.size 30 1 (.slice a3 s c3) s (valsU (lstU s S)) ∧ wc.ownsRow z.heap.size 30 1 (.slice a4 m c4) m (valsU (lstU m L)) ∧ ∀ y y', a3 = some y → a4 = some y' → y.block ≠ y'.block

theorem cln_of {z p W : World} {b : Nat} {a3 : Option Addr} {s c3 : Nat} {a4 : Option Addr} {m c4 : Nat} {S L : Nat → Int} {x y : Value} (hB : Below z.heap.size z p) (hb : p.heap[b]? = some (.cells #[x, y] 27 (0, 0))) (hz : z.heap.size ≤ b)
    (o3 : p.ownsRow z.heap.size 30 1 (.slice a3 s c3) s (valsU (lstU s S))) (o4 : p.ownsRow z.heap.size 30 1 (.slice a4 m c4) m (valsU (lstU m L))) (hd : ∀ y y', a3 = some y → a4 = some y' → y.block ≠ y'.block)
    (hW : W = (p.setCell ⟨b, 0, none⟩ (.slice a3 s c3)).setCell ⟨b, 1, none⟩ (.slice a4 m c4)) : Cln z W b a3 s c3 a4 m c4 S L := by
  have hbut : But b p W := by rw [hW]; exact ((But.refl _ _).setCell _ _).setCell _ _
  refine ⟨hB.trans (hbut.below hz hB.size), by rw [hW]; exact two_set hb _ _, hz, ?_, ?_, hd⟩
  · refine owns_frame o3 (fun q hq => ?_)
    cases a3 with
    | none => cases hq
    | some ad => cases hq; exact hbut.block _ (o3.lt _ rfl).2 (owns_ne o3 rfl hb)
  · refine owns_frame o4 (fun q hq => ?_)
    cases a4 with
    | none => cases hq
    | some ad => cases hq; exact hbut.block _ (o4.lt _ rfl).2 (owns_ne o4 rfl hb)

/-- A list of the call's own that is not empty, opened. -/
theorem own_open {w : World} {base n : Nat} {a : Option Addr} {c : Nat} {Z : Nat → Int} (h : w.ownsRow base 30 1 (.slice a n c) n (valsU (lstU n Z))) (hn : 0 < n) :
    ∃ g cur, a = some ⟨g, 0, none⟩ ∧ base ≤ g ∧ w.heap[g]? = some (.cells cur 30 (0, 0)) ∧ cur.size = c ∧ n ≤ c ∧ c ≤ 9223372036854775807 ∧ ∀ j, j < n → w.cell? ⟨g, j, none⟩ = some (.int .u64 (Z j)) := by
  rcases h.2 with ⟨_, h0⟩ | ⟨g, cap, cur, h1, h2, h3, h4, h5, h6, h7⟩
  · omega
  · cases h1
    refine ⟨g, cur, rfl, h2, h3, by omega, h4, by unfold maxLen at h5; omega, fun j hj => ?_⟩
    have h8 : (cur.toList.take (n * 1))[j]? = some (.int .u64 (Z j)) := by
      rw [h7, valsU, List.getElem?_map, lstU_at _ _ _ hj]; rfl
    rw [List.getElem?_take, if_pos (by omega)] at h8
    exact cell_of_cells h3 (by simpa using h8)

theorem RowU.frame {w w' : World} {a : Option Addr} {n : Nat} {Z : Nat → Int} (h : RowU w a n Z) (hf : ∀ y, a = some y → y.block < w.heap.size → w'.heap[y.block]? = w.heap[y.block]?) : RowU w' a n Z := by
  obtain ⟨b, o, h1, h2⟩ := h
  refine ⟨b, o, h1, fun i hi => ?_⟩
  have hv := h2 i hi
  have hs : b < w.heap.size := World.block_lt_of_cell? _ _ hv
  have he : w'.heap[b]? = w.heap[b]? := hf _ (h1 (by omega)) hs
  rw [World.cell?_of_block (w := w) he]
  exact hv

theorem row_of_own {w : World} {base n : Nat} {a : Option Addr} {c : Nat} {Z : Nat → Int} (h : w.ownsRow base 30 1 (.slice a n c) n (valsU (lstU n Z))) : RowU w a n Z ∧ (a = none → n = 0 ∧ c = 0) := by
  obtain ⟨_, a', c', e, q1, _, _, q⟩ := rowU_of_owns h
  cases e
  exact ⟨q Z (fun i hi => lstU_at n Z i hi), q1⟩

theorem dbl_u {k n : Nat} {S : Nat → Int} (hk : k < n) (h : ∀ i, i < n → 0 ≤ S i ∧ S i < 18446744073709551616) : ∀ i, i < n + 1 → 0 ≤ dbl k S i ∧ dbl k S i < 18446744073709551616 := by
  intro i hi
  unfold dbl
  by_cases e : i ≤ k
  · rw [if_pos e]; exact h i (by omega)
  · rw [if_neg e]; exact h (i - 1) (by omega)

theorem tr_ok {t : Fml} {s m : Nat} {S L : Nat → Int} (h : (trV t s m S L).2 = true) : 0 < m ∧ (trV t s m S L).1 = hb (s + m) (atm s m S L) t 0 := by
  unfold trV at h ⊢
  by_cases a : hchk t s m = 0
  · rw [if_pos a]
    refine ⟨?_, rfl⟩
    unfold hchk at a
    by_cases hc : (chk t 1 0).1 = 0
    · rw [if_neg (by rw [hc]; decide)] at a
      exact (wchk_ok a).2
    · rw [if_pos hc] at a
      exact absurd a hc
  · rw [if_neg a] at h; cases h

/-- Told alike of a word and of one with a letter twice. -/
theorem tr_stut {t : Fml} (ht : Pln t) {s m s' m' : Nat} {S L S' L' : Nat → Int} {p : Nat → Nat} (hp : Slow p) (he : ∀ i, ltr s' m' S' L' i = ltr s m S L (p i)) (h1 : (trV t s m S L).2 = true) (h2 : (trV t s' m' S' L').2 = true) : (trV t s m S L).1 = (trV t s' m' S' L').1 := by
  obtain ⟨a1, a2⟩ := tr_ok h1
  obtain ⟨b1, b2⟩ := tr_ok h2
  rw [a2, b2]
  exact (stut_tells ht a1 b1 hp he).symm

end Go.Proofs.YtejombhfkobcbaaDoor
