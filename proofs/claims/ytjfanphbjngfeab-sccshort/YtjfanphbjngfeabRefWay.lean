/- The document's Way, by its contract. -/
import Derived.Test.YtjfanphbjngfeabWayWalk2
namespace Go.Proofs.Ytjfanphbjngfeab
open Go.RowKit

/-- The memory of the document's Way: far's row, and the variable that the closure takes. -/
structure Rf (w wr : World) (G : Nat) (F : Nat → Int) : Prop where
  below : Below w.heap.size w wr
  far : wr.rowIs w.heap.size 3 G (fun x => .int .i64 (F x))
  var : wr.rowIs (w.heap.size + 1) 23 1 (fun _ => .slice (some ⟨w.heap.size, 0, none⟩) G G)

theorem rf_start (w : World) (G : Nat) : Rf w ((w.alloc (.cells (madeCells #[.int .i64 0] G) 3)).alloc (.cells #[.slice (some ⟨w.heap.size, 0, none⟩) G G] 23)) G (fun _ => 0) :=
  ⟨((Below.refl _ _).alloc (Nat.le_refl _) _).alloc (by simp) _, (World.rowIs_made w (.int .i64 0) G 3).alloc _, rowIs_lit _ _ 23 _ 1 _ (by simp) rfl (fun i hi => by
    have : i = 0 := by omega
    subst this
    rfl)⟩

theorem Rf.set {w wr : World} {G : Nat} {F : Nat → Int} (h : Rf w wr G F) (x : Nat) (d : Int) : Rf w (wr.setCell ⟨w.heap.size, x, none⟩ (.int .i64 d)) G (upd F x d) := by
  refine ⟨h.below.setCell (Nat.le_refl _) _, (h.far.set x _).congr (fun i _ => ?_), h.var.setOther (by show w.heap.size + 1 ≠ w.heap.size; omega) _⟩
  by_cases e : i = x <;> simp [upd, e]

theorem Rf.congrF {w wr : World} {G : Nat} {F F' : Nat → Int} (h : Rf w wr G F) (e : ∀ x, x < G → F x = F' x) : Rf w wr G F' := ⟨h.below, h.far.congr (fun x hx => by rw [e x hx]), h.var⟩

theorem Rf.drewN {w wr : World} {G : Nat} {F : Nat → Int} (h : Rf w wr G F) (q : Nat) : Rf w (wr.drewN q) G F := ⟨below_drewN h.below q, h.far, h.var⟩

section
variable {L : Nat → Nat} {Z : Nat → Nat → Int} {T : Nat → Bool}

/-- The row while round r + 1 is made, the first k done. -/
def lvk (L : Nat → Nat) (Z : Nat → Nat → Int) (T : Nat → Bool) (r k x : Nat) : Int := if x < k then lev L Z T (r + 1) x else lev L Z T r x

theorem lev_keep {r x : Nat} (h : lev L Z T r x ≠ 0) : lev L Z T (r + 1) x = lev L Z T r x := by
  simp only [lev]
  rw [if_neg (fun hh => h hh.1)]
theorem lev_none {r x : Nat} (h : ∀ j, j < L x → lev L Z T r (Z x j).toNat ≠ (r : Int) + 1) : lev L Z T (r + 1) x = lev L Z T r x := by
  simp only [lev]
  rw [if_neg (fun hh => by obtain ⟨j, hj, e⟩ := hh.2; exact h j hj e)]
theorem lev_hit {r x j : Nat} (h0 : lev L Z T r x = 0) (hj : j < L x) (h : lev L Z T r (Z x j).toNat = (r : Int) + 1) : lev L Z T (r + 1) x = (r : Int) + 2 := by
  simp only [lev]
  rw [if_pos ⟨h0, j, hj, h⟩]

theorem lev_same {r x : Nat} : lev L Z T (r + 1) x = (r : Int) + 1 ↔ lev L Z T r x = (r : Int) + 1 := by
  constructor
  · intro h
    by_cases h0 : lev L Z T r x = 0
    · by_cases hex : ∃ i, i < L x ∧ lev L Z T r (Z x i).toNat = (r : Int) + 1
      · obtain ⟨i, hi, e⟩ := hex
        rw [lev_hit h0 hi e] at h
        omega
      · rw [lev_none (fun j hj e => hex ⟨j, hj, e⟩), h0] at h
        omega
    · rw [lev_keep h0] at h
      exact h
  · intro h
    rw [lev_keep (by omega)]
    exact h

theorem lvk_see {r k y : Nat} (h0 : lev L Z T r k = 0) : upd (lvk L Z T r k) k 0 y = (r : Int) + 1 ↔ lev L Z T r y = (r : Int) + 1 := by
  by_cases e : y = k
  · subst e; rw [upd_at, h0]
  · rw [upd_ne _ _ _ _ e]
    unfold lvk
    by_cases h : y < k
    · rw [if_pos h]; exact lev_same
    · rw [if_neg h]

theorem lvk_next {r k : Nat} (x : Nat) : upd (lvk L Z T r k) k (lev L Z T (r + 1) k) x = lvk L Z T r (k + 1) x := by
  by_cases e : x = k
  · subst e; rw [upd_at]; unfold lvk; rw [if_pos (by omega)]
  · rw [upd_ne _ _ _ _ e]
    unfold lvk
    by_cases h : x < k
    · rw [if_pos h, if_pos (by omega)]
    · rw [if_neg h, if_neg (by omega)]

theorem lvk_self {r k : Nat} (x : Nat) : lvk L Z T r k x = upd (lvk L Z T r k) k (lev L Z T r k) x := by
  by_cases e : x = k
  · subst e; rw [upd_at]; unfold lvk; rw [if_neg (by omega)]
  · rw [upd_ne _ _ _ _ e]

/-- What the innermost loop has found of node k, by the first i of its list. -/
def Found (L : Nat → Nat) (Z : Nat → Nat → Int) (T : Nat → Bool) (r k i : Nat) (v : Int) : Prop :=
  (v = lev L Z T r k ∧ (lev L Z T r k = 0 → ∀ j, j < i → lev L Z T r (Z k j).toNat ≠ (r : Int) + 1)) ∨ (v = (r : Int) + 2 ∧ lev L Z T (r + 1) k = (r : Int) + 2)

theorem Found.start (r k : Nat) : Found L Z T r k 0 (lev L Z T r k) := Or.inl ⟨rfl, fun _ j hj => by omega⟩
theorem Found.stop {r k i : Nat} {v : Int} (h : Found L Z T r k i v) (hv : v ≠ 0 ∨ ¬ i < L k) : v = lev L Z T (r + 1) k := by
  rcases h with ⟨rfl, h⟩ | ⟨rfl, h⟩
  · by_cases h0 : lev L Z T r k = 0
    · rcases hv with hv | hv
      · exact absurd h0 hv
      · rw [lev_none (fun j hj => h h0 j (by omega))]
    · rw [lev_keep h0]
  · exact h.symm
theorem Found.zero {r k i : Nat} (h : Found L Z T r k i 0) : lev L Z T r k = 0 ∧ ∀ j, j < i → lev L Z T r (Z k j).toNat ≠ (r : Int) + 1 := by
  rcases h with ⟨e, h⟩ | ⟨e, _⟩
  · exact ⟨e.symm, h e.symm⟩
  · omega
end

theorem own_one (w : World) (base : Nat) (x : Int) (hb : base ≤ w.heap.size) : (w.alloc (.cells #[.int .i64 x] 3)).ownsRow base 3 1 (.slice (some ⟨w.heap.size, 0, none⟩) 1 1) 1 (vals [x]) :=
  ⟨rfl, .inr ⟨w.heap.size, 1, #[.int .i64 x], rfl, hb, heap_alloc_new w _, Nat.le_refl _, by unfold maxLen; omega, rfl, rfl⟩⟩

theorem refWay_step {w wr w1 : World} {G : Nat} {F : Nat → Int} {v v' : Value} {k : Nat} {l : List Int} {x : Int} {o : Obj} (hr : Rf w wr G F) (ho : wr.ownsRow (w.heap.size + 1 + 1) 3 1 v k (vals l)) (hown : w1.ownsRow (w.heap.size + 1 + 1) 3 1 v' (k + 1) (vals l ++ [.int .i64 x])) (hg : (wr.alloc o).grownBy w1 v.ownBlock) :
    (∃ a c, v' = .slice a (k + 1) c) ∧ Hid (Rf w w1 G F ∧ w1.ownsRow (w.heap.size + 1 + 1) 3 1 v' (k + 1) (vals (l ++ [x]))) := by
  have hlt : ∀ j, v.ownBlock = some j → w.heap.size + 1 + 1 ≤ j := fun j hj => (ho.lt j hj).1
  have hg' := (World.grownBy_alloc wr o v.ownBlock).trans hg
  have hv := hr.var.lt
  have keep : ∀ b, b < w.heap.size + 1 + 1 → w1.heap[b]? = wr.heap[b]? := fun b hb => hg'.block b (by omega) (fun e => by have := hlt _ e.symm; omega)
  refine ⟨?_, ⟨hr.below.grown hg' hr.below.size (fun j hj => by have := hlt j hj; omega), hr.far.of_block (keep _ (by omega)), hr.var.of_block (keep _ (by omega))⟩, by rw [← vals_snoc]; exact hown⟩
  rcases hown.2 with ⟨_, h0⟩ | ⟨g, cap, cur, rfl, _⟩
  · omega
  · exact ⟨_, _, rfl⟩

theorem ref_none {G : Nat} {L : Nat → Nat} {Z : Nat → Nat → Int} {T : Nat → Bool} {n : Nat} {Y : Nat → Int} (hZ : ∀ x, x < G → ∀ i, i < L x → 0 ≤ Z x i ∧ Z x i < G) (hY : ∀ i, i < n → 0 ≤ Y i ∧ Y i < G) (h : ∀ x, x < G → T x = true → ¬ Comes G L Z n Y x) (d : Nat) (hd : 1 ≤ d) (hdG : d ≤ G) :
    best (fun x => decide (lev L Z T G x = (d : Int))) Y n = -1 := by
  by_cases hb : best (fun x => decide (lev L Z T G x = (d : Int))) Y n = -1
  · exact hb
  · obtain ⟨i, hi, _, hp⟩ := best_some n hb
    have hy := hY i hi
    simp only [decide_eq_true_eq] at hp
    have hm := (lev_iff (r := G) (k := d - 1) hZ (x := (Y i).toNat) (by omega) (by omega)).1 (by rw [hp]; omega)
    obtain ⟨t, ht, hT, hw⟩ := wk_bk (P := fun x : Nat => ∃ i, i < n ∧ Y i = (x : Int)) (k := 0) (x := (Y i).toNat) ⟨i, hi, by omega⟩ hm.1 (by omega) hZ
    exact absurd ⟨_, by rw [src_eq, ed_ego]; exact hw⟩ (h t ht hT)

theorem Near.from0 {G : Nat} {L : Nat → Nat} {Z : Nat → Nat → Int} {T : Nat → Bool} {n : Nat} {Y : Nat → Int} {F : Nat → Int} {len : Nat} (h : Near G L Z T n Y F len) {i : Nat} (hi : i < n) : F (Y i).toNat = 0 := by
  have := h.hY i hi
  obtain ⟨h1, h2⟩ := h.all 0 (Y i).toNat (by omega) ⟨i, hi, by omega⟩
  have := (h.snd (Y i).toNat (by omega) h1).1
  omega

theorem Near.early {G : Nat} {L : Nat → Nat} {Z : Nat → Nat → Int} {T : Nat → Bool} {n : Nat} {Y : Nat → Int} {F : Nat → Int} {len : Nat} (h : Near G L Z T n Y F len) (d : Nat) (hd : 1 ≤ d) (hdl : d ≤ len) :
    best (fun x => decide (lev L Z T G x = (d : Int))) Y n = -1 := by
  have hl := h.lenG
  by_cases hb : best (fun x => decide (lev L Z T G x = (d : Int))) Y n = -1
  · exact hb
  · obtain ⟨i, hi, _, hp⟩ := best_some n hb
    have hy := h.hY i hi
    simp only [decide_eq_true_eq] at hp
    have hm := (lev_iff (r := G) (k := d - 1) h.hZ (x := (Y i).toNat) (by omega) (by omega)).1 (by rw [hp]; omega)
    have h0 := h.from0 hi
    have := h.far (x := (Y i).toNat) (by omega) (by omega) hm.1
    omega

theorem byLev_eq {G : Nat} {L : Nat → Nat} {Z : Nat → Nat → Int} {T : Nat → Bool} {len s k : Nat} (h : k + s = len + 1) : (fun x => decide (lev L Z T G x = (k : Int))) = byLev G L Z T len s := by
  funext x
  unfold byLev
  rw [show (k : Int) = (len : Int) + 1 - s from by omega]

end Go.Proofs.Ytjfanphbjngfeab
