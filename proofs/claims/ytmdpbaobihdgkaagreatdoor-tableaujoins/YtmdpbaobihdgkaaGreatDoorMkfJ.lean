/- Formulas that the laws make: atom, one, two; what they mean. What a formula means at a place of an endless word: by all places, and by so many as a word that goes round has. What composed formulas mean. Formulas that are checked: every node fits. -/
import Derived.Test.YtmdpbaobihdgkaaGreatDoorChkJ
import Derived.Test.YtmdpbaobihdgkaaGreatDoorBaseJ
namespace Go.Proofs.YtmdpbaobihdgkaaGreatDoor
open Go.RowKit

def nd (k n : Int) : Fml := ⟨k, n, 0, fun i => i.elim0⟩
def on (k : Int) (t : Fml) : Fml := ⟨k, 0, 1, fun _ => t⟩
def tw (k : Int) (t t2 : Fml) : Fml := ⟨k, 0, 2, fun i => if i.val = 0 then t else t2⟩

theorem on_kid (k : Int) (t : Fml) : (on k t).kid 0 = t := dif_pos (show 0 < 1 by decide)
theorem tw_kid0 (k : Int) (t t2 : Fml) : (tw k t t2).kid 0 = t := by
  have : (tw k t t2).kid 0 = (tw k t t2).kids ⟨0, (show 0 < 2 by decide)⟩ := dif_pos (show 0 < 2 by decide)
  rw [this]
  rfl
theorem tw_kid1 (k : Int) (t t2 : Fml) : (tw k t t2).kid 1 = t2 := by
  have : (tw k t t2).kid 1 = (tw k t t2).kids ⟨1, (show 1 < 2 by decide)⟩ := dif_pos (show 1 < 2 by decide)
  rw [this]
  rfl

/-- A formula is answered, and lies there. -/
def Mk (w : World) (t : Fml) (e : Ending) (w' : World) : Prop := ∃ (a : Option Addr) (cap : Nat), e = .returned (.agg #[.int .i64 t.kind, .int .i64 t.num, .slice a t.cnt cap]) ∧ Kds w' t a ∧ Below w.heap.size w w'

theorem kds_nd (w : World) (k n : Int) (a : Option Addr) : Kds w (nd k n) a := Kds.mk ⟨0, 0, fun h => absurd h (Nat.lt_irrefl 0), fun i hi => absurd hi (Nat.not_lt_zero i)⟩

theorem kds_on {w : World} {k : Int} {t : Fml} {a : Option Addr} {cap b : Nat} (hb : w.heap[b]? = some (.cells #[.int .i64 t.kind, .int .i64 t.num, .slice a t.cnt cap] 24)) (hc : t.cnt ≤ 9223372036854775807) (h : Kds w t a) : Kds w (on k t) (some ⟨b, 0, none⟩) := by
  refine Kds.mk ⟨b, 0, fun _ => rfl, fun i hi => ?_⟩
  have hi1 : i < 1 := hi
  obtain rfl : i = 0 := by omega
  rw [on_kid]
  exact ⟨a, cap, cell_of_cells hb rfl, cell_of_cells hb rfl, cell_of_cells hb rfl, hc, h⟩

theorem kds_tw {w : World} {k : Int} {t t2 : Fml} {a a2 : Option Addr} {cap cap2 b : Nat} (hb : w.heap[b]? = some (.cells #[.int .i64 t.kind, .int .i64 t.num, .slice a t.cnt cap, .int .i64 t2.kind, .int .i64 t2.num, .slice a2 t2.cnt cap2] 24)) (hc : t.cnt ≤ 9223372036854775807) (h : Kds w t a) (hc2 : t2.cnt ≤ 9223372036854775807) (h2 : Kds w t2 a2) : Kds w (tw k t t2) (some ⟨b, 0, none⟩) := by
  refine Kds.mk ⟨b, 0, fun _ => rfl, fun i hi => ?_⟩
  have hi1 : i < 2 := hi
  rcases (by omega : i = 0 ∨ i = 1) with rfl | rfl
  · rw [tw_kid0]
    exact ⟨a, cap, cell_of_cells hb rfl, cell_of_cells hb rfl, cell_of_cells hb rfl, hc, h⟩
  · rw [tw_kid1]
    exact ⟨a2, cap2, cell_of_cells hb rfl, cell_of_cells hb rfl, cell_of_cells hb rfl, hc2, h2⟩

set_option maxHeartbeats 1000000 in
theorem atom_f (n : Int) (w : World) : Calls Tryz.prog 14 #[.int .i64 n] w fun e w' => Mk w (nd 3 n) e w' := by
  go_enter Tryz.func14, Tryz.ntmps14
  go_wp2
  refine bodyPost_ret (results_cell_row rfl _ _ w.heap.size 24 #[.int .i64 3, .int .i64 n, .slice none 0 0] (0, 0) _ rfl ?_ Tryz.underlying24 rfl (by kernel_rfl)) rfl ?_
  · exact Go.Deep.blk_alloc_new _ _
  · exact ⟨none, 0, rfl, kds_nd _ _ _ _, box_below _ _⟩

theorem alloc_last {w : World} {B : Nat} (o : Obj) (h : w.heap.size = B) : (w.alloc o).heap[B]? = some o := by rw [← h]; exact Go.Deep.blk_alloc_new _ _
theorem alloc_old {w : World} {B : Nat} {x : Obj} (o : Obj) (h : w.heap[B]? = some x) : (w.alloc o).heap[B]? = some x := (Go.Deep.blk_alloc_lt _ _ _ (Array.getElem?_eq_some_iff.1 h).1).trans h

set_option maxHeartbeats 1000000 in
theorem one_g (k : Int) (t : Fml) (a : Option Addr) (cap : Nat) (w : World) : Calls Tryz.prog 10 #[.int .i64 k, .agg #[.int .i64 t.kind, .int .i64 t.num, .slice a t.cnt cap]] w fun e w' => e = .returned (.agg #[.int .i64 k, .int .i64 0, .slice (some ⟨w.heap.size + 1 + 1, 0, none⟩) 1 1]) ∧ w'.heap[w.heap.size + 1 + 1]? = some (.cells #[.int .i64 t.kind, .int .i64 t.num, .slice a t.cnt cap] 24) ∧ Below w.heap.size w w' := by
  go_enter Tryz.func10, Tryz.ntmps10
  go_wp2
  obtain ⟨v1, hv1⟩ : ∃ y, y = w.alloc (.cells #[.int .i64 t.kind, .int .i64 t.num, .slice a t.cnt cap] 24) := ⟨_, rfl⟩
  have e1 : v1.heap.size = w.heap.size + 1 := by rw [hv1]; simp
  obtain ⟨v2, hv2⟩ : ∃ y, y = v1.alloc (.cells #[.int .i64 k, .int .i64 0, .slice (some ⟨w.heap.size + 1 + 1, 0, none⟩) 1 1] 24) := ⟨_, rfl⟩
  have e2 : v2.heap.size = w.heap.size + 1 + 1 := by rw [hv2, ← e1]; simp
  have b1 : Below w.heap.size w v1 := by rw [hv1]; exact box_below _ _
  have b2 : Below w.heap.size w v2 := by rw [hv2]; exact b1.alloc (by omega) _
  have x2 : v2.heap[w.heap.size + 1]? = some (.cells #[.int .i64 k, .int .i64 0, .slice (some ⟨w.heap.size + 1 + 1, 0, none⟩) 1 1] 24) := by rw [hv2]; exact alloc_last _ e1
  rw [← hv1, ← hv2]
  refine bodyPost_ret (results_cell_row rfl _ _ (w.heap.size + 1) 24 #[.int .i64 k, .int .i64 0, .slice (some ⟨w.heap.size + 1 + 1, 0, none⟩) 1 1] (0, 0) _ rfl (alloc_old _ x2) Tryz.underlying24 rfl (by kernel_rfl)) rfl ?_
  exact ⟨rfl, alloc_last _ e2, b2.alloc (by omega) _⟩

theorem one_f (k : Int) (t : Fml) (a : Option Addr) (cap : Nat) (w : World) (h : Kds w t a) (hc : t.cnt ≤ 9223372036854775807) : Calls Tryz.prog 10 #[.int .i64 k, .agg #[.int .i64 t.kind, .int .i64 t.num, .slice a t.cnt cap]] w fun e w' => Mk w (on k t) e w' :=
  (one_g k t a cap w).mono fun _ _ hh => ⟨some ⟨w.heap.size + 1 + 1, 0, none⟩, 1, hh.1, kds_on (cap := cap) hh.2.1 hc (h.below hh.2.2), hh.2.2⟩

set_option maxHeartbeats 1000000 in
theorem two_g (k : Int) (t : Fml) (a : Option Addr) (cap : Nat) (t2 : Fml) (a2 : Option Addr) (cap2 : Nat) (w : World) :
    Calls Tryz.prog 13 #[.int .i64 k, .agg #[.int .i64 t.kind, .int .i64 t.num, .slice a t.cnt cap], .agg #[.int .i64 t2.kind, .int .i64 t2.num, .slice a2 t2.cnt cap2]] w fun e w' => e = .returned (.agg #[.int .i64 k, .int .i64 0, .slice (some ⟨w.heap.size + 1 + 1 + 1, 0, none⟩) 2 2]) ∧ w'.heap[w.heap.size + 1 + 1 + 1]? = some (.cells #[.int .i64 t.kind, .int .i64 t.num, .slice a t.cnt cap, .int .i64 t2.kind, .int .i64 t2.num, .slice a2 t2.cnt cap2] 24) ∧ Below w.heap.size w w' := by
  go_enter Tryz.func13, Tryz.ntmps13
  go_wp2
  obtain ⟨v0, hv0⟩ : ∃ y, y = w.alloc (.cells #[.int .i64 t.kind, .int .i64 t.num, .slice a t.cnt cap] 24) := ⟨_, rfl⟩
  have e0 : v0.heap.size = w.heap.size + 1 := by rw [hv0]; simp
  obtain ⟨v1, hv1⟩ : ∃ y, y = v0.alloc (.cells #[.int .i64 t2.kind, .int .i64 t2.num, .slice a2 t2.cnt cap2] 24) := ⟨_, rfl⟩
  have e1 : v1.heap.size = w.heap.size + 1 + 1 := by rw [hv1, ← e0]; simp
  obtain ⟨v2, hv2⟩ : ∃ y, y = v1.alloc (.cells #[.int .i64 k, .int .i64 0, .slice (some ⟨w.heap.size + 1 + 1 + 1, 0, none⟩) 2 2] 24) := ⟨_, rfl⟩
  have e2 : v2.heap.size = w.heap.size + 1 + 1 + 1 := by rw [hv2, ← e1]; simp
  have b0 : Below w.heap.size w v0 := by rw [hv0]; exact box_below _ _
  have b1 : Below w.heap.size w v1 := by rw [hv1]; exact b0.alloc (by omega) _
  have b2 : Below w.heap.size w v2 := by rw [hv2]; exact b1.alloc (by omega) _
  have x2 : v2.heap[w.heap.size + 1 + 1]? = some (.cells #[.int .i64 k, .int .i64 0, .slice (some ⟨w.heap.size + 1 + 1 + 1, 0, none⟩) 2 2] 24) := by rw [hv2]; exact alloc_last _ e1
  rw [← hv0, ← hv1, ← hv2]
  refine bodyPost_ret (results_cell_row rfl _ _ (w.heap.size + 1 + 1) 24 #[.int .i64 k, .int .i64 0, .slice (some ⟨w.heap.size + 1 + 1 + 1, 0, none⟩) 2 2] (0, 0) _ rfl (alloc_old _ x2) Tryz.underlying24 rfl (by kernel_rfl)) rfl ?_
  exact ⟨rfl, alloc_last _ e2, b2.alloc (by omega) _⟩

theorem two_f (k : Int) (t : Fml) (a : Option Addr) (cap : Nat) (t2 : Fml) (a2 : Option Addr) (cap2 : Nat) (w : World) (h : Kds w t a) (hc : t.cnt ≤ 9223372036854775807) (h2 : Kds w t2 a2) (hc2 : t2.cnt ≤ 9223372036854775807) :
    Calls Tryz.prog 13 #[.int .i64 k, .agg #[.int .i64 t.kind, .int .i64 t.num, .slice a t.cnt cap], .agg #[.int .i64 t2.kind, .int .i64 t2.num, .slice a2 t2.cnt cap2]] w fun e w' => Mk w (tw k t t2) e w' :=
  (two_g k t a cap t2 a2 cap2 w).mono fun _ _ hh => ⟨some ⟨w.heap.size + 1 + 1 + 1, 0, none⟩, 2, hh.1, kds_tw (cap := cap) (cap2 := cap2) hh.2.1 hc (h.below hh.2.2) hc2 (h2.below hh.2.2), hh.2.2⟩

end Go.Proofs.YtmdpbaobihdgkaaGreatDoor

namespace Go.Proofs.YtmdpbaobihdgkaaGreatDoor
open Go.RowKit

def holdF (A : Nat → Int → Bool) (t : Fml) (r : Nat → Nat → Prop) (i : Nat) : Prop :=
  if t.kind = 1 then True else if t.kind = 3 then A i t.num = true else if t.kind = 4 then ¬ r 0 i else if t.kind = 5 then r 0 i ∧ r 1 i else if t.kind = 6 then r 0 i ∨ r 1 i
  else if t.kind = 7 then r 0 (i + 1) else if t.kind = 8 then ∃ j, i ≤ j ∧ r 1 j ∧ ∀ k, i ≤ k → k < j → r 0 k
  else if t.kind = 9 then ¬ ∃ j, i ≤ j ∧ ¬ r 1 j ∧ ∀ k, i ≤ k → k < j → ¬ r 0 k
  else if t.kind = 10 then ∃ j, i ≤ j ∧ r 0 j else if t.kind = 11 then ¬ ∃ j, i ≤ j ∧ ¬ r 0 j else False

/-- A formula holds at a place; A tells which atoms a place has. -/
def hold (A : Nat → Int → Bool) (t : Fml) : Nat → Prop := t.red (fun _ => False) (holdF A)

/-- Does g come within d places, f holding ahead of it? -/
def unt (f g : Nat → Bool) : Nat → Nat → Bool
  | 0, _ => false
  | d + 1, i => g i || (f i && unt f g d (i + 1))

/-- The same for LRelease. -/
def rls (f g : Nat → Bool) (d i : Nat) : Bool := !unt (fun k => !f k) (fun k => !g k) d i

def hbF (d : Nat) (A : Nat → Int → Bool) (t : Fml) (r : Nat → Nat → Bool) (i : Nat) : Bool :=
  if t.kind = 1 then true else if t.kind = 3 then A i t.num else if t.kind = 4 then !r 0 i else if t.kind = 5 then r 0 i && r 1 i else if t.kind = 6 then r 0 i || r 1 i
  else if t.kind = 7 then r 0 (i + 1) else if t.kind = 8 then unt (r 0) (r 1) d i
  else if t.kind = 9 then rls (r 0) (r 1) d i
  else if t.kind = 10 then unt (fun _ => true) (r 0) d i else if t.kind = 11 then rls (fun _ => false) (r 0) d i else false

/-- The same, looking ahead d places. -/
def hb (d : Nat) (A : Nat → Int → Bool) (t : Fml) : Nat → Bool := t.red (fun _ => false) (hbF d A)

theorem hold_eq (A : Nat → Int → Bool) (t : Fml) (i : Nat) : hold A t i = holdF A t (t.reds (fun _ => False) (holdF A)) i := congrFun (Fml.red_eq _ _ t) i

theorem hold_kid {A : Nat → Int → Bool} {t : Fml} {i : Nat} (h : i < t.cnt) : t.reds (fun _ => False) (holdF A) i = hold A (t.kid i) := Fml.reds_at h
theorem hold_none {A : Nat → Int → Bool} {t : Fml} {i : Nat} (h : ¬ i < t.cnt) : t.reds (fun _ => False) (holdF A) i = fun _ => False := if_neg h

end Go.Proofs.YtmdpbaobihdgkaaGreatDoor

namespace Go.Proofs.YtmdpbaobihdgkaaGreatDoor
open Go.RowKit

theorem hold_red_on (A : Nat → Int → Bool) (k : Int) (t : Fml) : (on k t).reds (fun _ => False) (holdF A) 0 = hold A t := by rw [hold_kid (show 0 < 1 by decide), on_kid]
theorem hold_red_tw0 (A : Nat → Int → Bool) (k : Int) (t t2 : Fml) : (tw k t t2).reds (fun _ => False) (holdF A) 0 = hold A t := by rw [hold_kid (show 0 < 2 by decide), tw_kid0]
theorem hold_red_tw1 (A : Nat → Int → Bool) (k : Int) (t t2 : Fml) : (tw k t t2).reds (fun _ => False) (holdF A) 1 = hold A t2 := by rw [hold_kid (show 1 < 2 by decide), tw_kid1]

section
variable (A : Nat → Int → Bool) (f g : Fml) (i : Nat)
theorem hold_true (n : Int) : hold A (nd 1 n) i = True := by rw [hold_eq]; simp [holdF, nd]
theorem hold_until : hold A (tw 8 f g) i = ∃ j, i ≤ j ∧ hold A g j ∧ ∀ k, i ≤ k → k < j → hold A f k := by
  have e := hold_red_tw0 A 8 f g
  have e1 := hold_red_tw1 A 8 f g
  rw [hold_eq]
  generalize (tw 8 f g).reds (fun _ => False) (holdF A) = r at e e1 ⊢
  unfold holdF
  rw [e, e1]
  simp [tw]
theorem hold_release : hold A (tw 9 f g) i = ¬ ∃ j, i ≤ j ∧ ¬ hold A g j ∧ ∀ k, i ≤ k → k < j → ¬ hold A f k := by
  have e := hold_red_tw0 A 9 f g
  have e1 := hold_red_tw1 A 9 f g
  rw [hold_eq]
  generalize (tw 9 f g).reds (fun _ => False) (holdF A) = r at e e1 ⊢
  unfold holdF
  rw [e, e1]
  simp [tw]
end

end Go.Proofs.YtmdpbaobihdgkaaGreatDoor

namespace Go.Proofs.YtmdpbaobihdgkaaGreatDoor
open Go.RowKit

/-- All nodes fit. -/
def Wf (t : Fml) : Prop := t.red True fun t r => fit t = true ∧ ∀ i, i < t.cnt → r i

theorem Wf.out {t : Fml} (h : Wf t) : fit t = true ∧ ∀ i, i < t.cnt → Wf (t.kid i) := by
  unfold Wf at h
  rw [Fml.red_eq] at h
  exact ⟨h.1, fun i hi => by have := h.2 i hi; rwa [Fml.reds_at hi] at this⟩
theorem Wf.mk {t : Fml} (h : fit t = true ∧ ∀ i, i < t.cnt → Wf (t.kid i)) : Wf t := by
  unfold Wf
  rw [Fml.red_eq]
  exact ⟨h.1, fun i hi => by rw [Fml.reds_at hi]; exact h.2 i hi⟩

def sumTo (f : Nat → Nat) : Nat → Nat
  | 0 => 0
  | n + 1 => sumTo f n + f n

theorem sumTo_congr {f g : Nat → Nat} : ∀ n, (∀ i, i < n → f i = g i) → sumTo f n = sumTo g n
  | 0, _ => rfl
  | n + 1, h => by rw [sumTo, sumTo, sumTo_congr n (fun i hi => h i (by omega)), h n (by omega)]

def szF (t : Fml) (r : Nat → Nat) : Nat := 1 + sumTo r t.cnt

/-- How many nodes a formula has. -/
def sz (t : Fml) : Nat := t.red 0 szF

theorem sz_eq (t : Fml) : sz t = 1 + sumTo (fun i => sz (t.kid i)) t.cnt := by
  have e : sz t = szF t (t.reds 0 szF) := Fml.red_eq _ _ t
  rw [e, szF, sumTo_congr (f := t.reds 0 szF) (g := fun i => sz (t.kid i)) t.cnt (fun i hi => Fml.reds_at hi)]

theorem chkAll_count {f : Nat → Nat → Int × Nat} {g : Nat → Nat} {p : Nat → Prop} {m : Nat} : ∀ n, (∀ i, i < n → ∀ x, (f i x).1 = 0 → p i ∧ (f i x).2 = x + g i) → (chkAll f m n).1 = 0 → (∀ i, i < n → p i) ∧ (chkAll f m n).2 = m + sumTo g n
  | 0, _, _ => ⟨fun _ h => absurd h (Nat.not_lt_zero _), rfl⟩
  | n + 1, hf, h => by
    have h0 : (chkAll f m n).1 = 0 := chkAll_ok h (Nat.le_succ n)
    obtain ⟨h1, h2⟩ := chkAll_count n (fun i hi => hf i (by omega)) h0
    simp only [chkAll, if_pos h0] at h ⊢
    obtain ⟨h3, h4⟩ := hf n (by omega) _ h
    refine ⟨snoc_all h1 h3, ?_⟩
    rw [h4, h2, sumTo]
    omega

theorem chk_wf : ∀ (t : Fml) (d m : Nat), (chk t d m).1 = 0 → Wf t ∧ (chk t d m).2 = m + sz t := by
  intro t
  induction t using Fml.ind with
  | h t ih =>
    intro d m h
    rw [chk_eq] at h ⊢
    by_cases h1 : 60 < m + 1
    · rw [if_pos h1] at h; cases h
    rw [if_neg h1] at h ⊢
    by_cases h2 : 20 < d
    · rw [if_pos h2] at h; cases h
    rw [if_neg h2] at h ⊢
    by_cases h3 : fit t = false
    · rw [if_pos h3] at h; cases h
    rw [if_neg h3] at h ⊢
    obtain ⟨h4, h5⟩ := chkAll_count (f := fun i x => chk (t.kid i) (d + 1) x) (g := fun i => sz (t.kid i)) (p := fun i => Wf (t.kid i)) t.cnt (fun i hi x hh => ih i hi (d + 1) x hh) h
    refine ⟨Wf.mk ⟨by simpa using h3, h4⟩, ?_⟩
    rw [sz_eq, h5]
    omega

theorem fit_parts {t : Fml} (h : fit t = true) : (t.cnt : Int) = ar t.kind ∧ (t.kind = 3 → 0 ≤ t.num ∧ t.num ≤ 63) := by
  unfold fit at h
  rw [Bool.and_eq_true, decide_eq_true_eq] at h
  refine ⟨h.1, fun hk => ?_⟩
  have := h.2
  rw [if_pos hk, decide_eq_true_eq] at this
  exact this

end Go.Proofs.YtmdpbaobihdgkaaGreatDoor
