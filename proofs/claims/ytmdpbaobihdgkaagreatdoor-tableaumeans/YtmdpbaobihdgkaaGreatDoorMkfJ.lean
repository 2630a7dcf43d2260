/- Formulas that the laws make: atom, one, two; what they mean. What a formula means at a place of an endless word: by all places, and by so many as a word that goes round has. What composed formulas mean. -/
import Derived.Test.YtmdpbaobihdgkaaGreatDoorChkJ
import Derived.Test.YtmdpbaobihdgkaaGreatDoorBaseJ
namespace Go.Proofs.YtmdpbaobihdgkaaGreatDoor
open Go.RowKit

def nd (k n : Int) : Fml := ⟨k, n, 0, fun i => i.elim0⟩
def on (k : Int) (t : Fml) : Fml := ⟨k, 0, 1, fun _ => t⟩
def tw (k : Int) (t t2 : Fml) : Fml := ⟨k, 0, 2, fun i => if i.val = 0 then t else t2⟩

theorem on_kid (k : Int) (t : Fml) : (on k t).kid 0 = t := dif_pos (show 0 < 1 by decide)
theorem tw_kid0 (k : Int) (t t2 : Fml) : (tw k t t2).kid 0 = t := by
  have : (tw k t t2).kid 0 = (tw k t t2).kids ⟨0, (show 0 < 2 by decide)⟩ := dif_pos (show 0 < 2 by decide)
  rw [this]
  rfl
theorem tw_kid1 (k : Int) (t t2 : Fml) : (tw k t t2).kid 1 = t2 := by
  have : (tw k t t2).kid 1 = (tw k t t2).kids ⟨1, (show 1 < 2 by decide)⟩ := dif_pos (show 1 < 2 by decide)
  rw [this]
  rfl

/-- A formula is answered, and lies there. -/
def Mk (w : World) (t : Fml) (e : Ending) (w' : World) : Prop := ∃ (a : Option Addr) (cap : Nat), e = .returned (.agg #[.int .i64 t.kind, .int .i64 t.num, .slice a t.cnt cap]) ∧ Kds w' t a ∧ Below w.heap.size w w'

theorem kds_nd (w : World) (k n : Int) (a : Option Addr) : Kds w (nd k n) a := Kds.mk ⟨0, 0, fun h => absurd h (Nat.lt_irrefl 0), fun i hi => absurd hi (Nat.not_lt_zero i)⟩

theorem kds_on {w : World} {k : Int} {t : Fml} {a : Option Addr} {cap b : Nat} (hb : w.heap[b]? = some (.cells #[.int .i64 t.kind, .int .i64 t.num, .slice a t.cnt cap] 24)) (hc : t.cnt ≤ 9223372036854775807) (h : Kds w t a) : Kds w (on k t) (some ⟨b, 0, none⟩) := by
  refine Kds.mk ⟨b, 0, fun _ => rfl, fun i hi => ?_⟩
  have hi1 : i < 1 := hi
  obtain rfl : i = 0 := by omega
  rw [on_kid]
  exact ⟨a, cap, cell_of_cells hb rfl, cell_of_cells hb rfl, cell_of_cells hb rfl, hc, h⟩

theorem kds_tw {w : World} {k : Int} {t t2 : Fml} {a a2 : Option Addr} {cap cap2 b : Nat} (hb : w.heap[b]? = some (.cells #[.int .i64 t.kind, .int .i64 t.num, .slice a t.cnt cap, .int .i64 t2.kind, .int .i64 t2.num, .slice a2 t2.cnt cap2] 24)) (hc : t.cnt ≤ 9223372036854775807) (h : Kds w t a) (hc2 : t2.cnt ≤ 9223372036854775807) (h2 : Kds w t2 a2) : Kds w (tw k t t2) (some ⟨b, 0, none⟩) := by
  refine Kds.mk ⟨b, 0, fun _ => rfl, fun i hi => ?_⟩
  have hi1 : i < 2 := hi
  rcases (by omega : i = 0 ∨ i = 1) with rfl | rfl
  · rw [tw_kid0]
    exact ⟨a, cap, cell_of_cells hb rfl, cell_of_cells hb rfl, cell_of_cells hb rfl, hc, h⟩
  · rw [tw_kid1]
    exact ⟨a2, cap2, cell_of_cells hb rfl, cell_of_cells hb rfl, cell_of_cells hb rfl, hc2, h2⟩

set_option maxHeartbeats 1000000 in
theorem atom_f (n : Int) (w : World) : Calls Tryz.prog 14 #[.int .i64 n] w fun e w' => Mk w (nd 3 n) e w' := by
  go_enter Tryz.func14, Tryz.ntmps14
  go_wp2
  refine bodyPost_ret (results_cell_row rfl _ _ w.heap.size 24 #[.int .i64 3, .int .i64 n, .slice none 0 0] (0, 0) _ rfl ?_ Tryz.underlying24 rfl (by kernel_rfl)) rfl ?_
  · exact Go.Deep.blk_alloc_new _ _
  · exact ⟨none, 0, rfl, kds_nd _ _ _ _, box_below _ _⟩

theorem alloc_last {w : World} {B : Nat} (o : Obj) (h : w.heap.size = B) : (w.alloc o).heap[B]? = some o := by rw [← h]; exact Go.Deep.blk_alloc_new _ _
theorem alloc_old {w : World} {B : Nat} {x : Obj} (o : Obj) (h : w.heap[B]? = some x) : (w.alloc o).heap[B]? = some x := (Go.Deep.blk_alloc_lt _ _ _ (Array.getElem?_eq_some_iff.1 h).1).trans h

set_option maxHeartbeats 1000000 in
theorem one_g (k : Int) (t : Fml) (a : Option Addr) (cap : Nat) (w : World) : Calls Tryz.prog 10 #[.int .i64 k, .agg #[.int .i64 t.kind, .int .i64 t.num, .slice a t.cnt cap]] w fun e w' => e = .returned (.agg #[.int .i64 k, .int .i64 0, .slice (some ⟨w.heap.size + 1 + 1, 0, none⟩) 1 1]) ∧ w'.heap[w.heap.size + 1 + 1]? = some (.cells #[.int .i64 t.kind, .int .i64 t.num, .slice a t.cnt cap] 24) ∧ Below w.heap.size w w' := by
  go_enter Tryz.func10, Tryz.ntmps10
  go_wp2
  obtain ⟨v1, hv1⟩ : ∃ y, y = w.alloc (.cells #[.int .i64 t.kind, .int .i64 t.num, .slice a t.cnt cap] 24) := ⟨_, rfl⟩
  have e1 : v1.heap.size = w.heap.size + 1 := by rw [hv1]; simp
  obtain ⟨v2, hv2⟩ : ∃ y, y = v1.alloc (.cells #[.int .i64 k, .int .i64 0, .slice (some ⟨w.heap.size + 1 + 1, 0, none⟩) 1 1] 24) := ⟨_, rfl⟩
  have e2 : v2.heap.size = w.heap.size + 1 + 1 := by rw [hv2, ← e1]; simp
  have b1 : Below w.heap.size w v1 := by rw [hv1]; exact box_below _ _
  have b2 : Below w.heap.size w v2 := by rw [hv2]; exact b1.alloc (by omega) _
  have x2 : v2.heap[w.heap.size + 1]? = some (.cells #[.int .i64 k, .int .i64 0, .slice (some ⟨w.heap.size + 1 + 1, 0, none⟩) 1 1] 24) := by rw [hv2]; exact alloc_last _ e1
  rw [← hv1, ← hv2]
  refine bodyPost_ret (results_cell_row rfl _ _ (w.heap.size + 1) 24 #[.int .i64 k, .int .i64 0, .slice (some ⟨w.heap.size + 1 + 1, 0, none⟩) 1 1] (0, 0) _ rfl (alloc_old _ x2) Tryz.underlying24 rfl (by kernel_rfl)) rfl ?_
  exact ⟨rfl, alloc_last _ e2, b2.alloc (by omega) _⟩

theorem one_f (k : Int) (t : Fml) (a : Option Addr) (cap : Nat) (w : World) (h : Kds w t a) (hc : t.cnt ≤ 9223372036854775807) : Calls Tryz.prog 10 #[.int .i64 k, .agg #[.int .i64 t.kind, .int .i64 t.num, .slice a t.cnt cap]] w fun e w' => Mk w (on k t) e w' :=
  (one_g k t a cap w).mono fun _ _ hh => ⟨some ⟨w.heap.size + 1 + 1, 0, none⟩, 1, hh.1, kds_on (cap := cap) hh.2.1 hc (h.below hh.2.2), hh.2.2⟩

end Go.Proofs.YtmdpbaobihdgkaaGreatDoor

namespace Go.Proofs.YtmdpbaobihdgkaaGreatDoor
open Go.RowKit

def holdF (A : Nat → Int → Bool) (t : Fml) (r : Nat → Nat → Prop) (i : Nat) : Prop :=
  if t.kind = 1 then True else if t.kind = 3 then A i t.num = true else if t.kind = 4 then ¬ r 0 i else if t.kind = 5 then r 0 i ∧ r 1 i else if t.kind = 6 then r 0 i ∨ r 1 i
  else if t.kind = 7 then r 0 (i + 1) else if t.kind = 8 then ∃ j, i ≤ j ∧ r 1 j ∧ ∀ k, i ≤ k → k < j → r 0 k
  else if t.kind = 9 then ¬ ∃ j, i ≤ j ∧ ¬ r 1 j ∧ ∀ k, i ≤ k → k < j → ¬ r 0 k
  else if t.kind = 10 then ∃ j, i ≤ j ∧ r 0 j else if t.kind = 11 then ¬ ∃ j, i ≤ j ∧ ¬ r 0 j else False

/-- A formula holds at a place; A tells which atoms a place has. -/
def hold (A : Nat → Int → Bool) (t : Fml) : Nat → Prop := t.red (fun _ => False) (holdF A)

/-- Does g come within d places, f holding ahead of it? -/
def unt (f g : Nat → Bool) : Nat → Nat → Bool
  | 0, _ => false
  | d + 1, i => g i || (f i && unt f g d (i + 1))

/-- The same for LRelease. -/
def rls (f g : Nat → Bool) (d i : Nat) : Bool := !unt (fun k => !f k) (fun k => !g k) d i

def hbF (d : Nat) (A : Nat → Int → Bool) (t : Fml) (r : Nat → Nat → Bool) (i : Nat) : Bool :=
  if t.kind = 1 then true else if t.kind = 3 then A i t.num else if t.kind = 4 then !r 0 i else if t.kind = 5 then r 0 i && r 1 i else if t.kind = 6 then r 0 i || r 1 i
  else if t.kind = 7 then r 0 (i + 1) else if t.kind = 8 then unt (r 0) (r 1) d i
  else if t.kind = 9 then rls (r 0) (r 1) d i
  else if t.kind = 10 then unt (fun _ => true) (r 0) d i else if t.kind = 11 then rls (fun _ => false) (r 0) d i else false

/-- The same, looking ahead d places. -/
def hb (d : Nat) (A : Nat → Int → Bool) (t : Fml) : Nat → Bool := t.red (fun _ => false) (hbF d A)

theorem unt_iff (f g : Nat → Bool) : ∀ d i, unt f g d i = true ↔ ∃ j, i ≤ j ∧ j < i + d ∧ g j = true ∧ ∀ k, i ≤ k → k < j → f k = true
  | 0, i => by simp only [unt]; exact ⟨fun h => (by cases h), fun ⟨j, h1, h2, _⟩ => by omega⟩
  | d + 1, i => by
    rw [unt, Bool.or_eq_true, Bool.and_eq_true, unt_iff f g d (i + 1)]
    constructor
    · rintro (h | ⟨h, j, h1, h2, h3, h4⟩)
      · exact ⟨i, Nat.le_refl _, by omega, h, fun k a b => by omega⟩
      · refine ⟨j, by omega, by omega, h3, fun k a b => ?_⟩
        by_cases e : k = i
        · rw [e]; exact h
        · exact h4 k (by omega) b
    · rintro ⟨j, h1, h2, h3, h4⟩
      by_cases e : j = i
      · subst e; exact Or.inl h3
      · exact Or.inr ⟨h4 i (Nat.le_refl _) (by omega), j, by omega, by omega, h3, fun k a b => h4 k (by omega) b⟩

/-- From s on it comes again every m places. -/
def Per {α : Type} (s m : Nat) (f : Nat → α) : Prop := ∀ i, s ≤ i → f (i + m) = f i

theorem unt_back {s m : Nat} (hm : 0 < m) {f g : Nat → Bool} (hg : Per s m g) (i : Nat) : ∀ j, i ≤ j → g j = true → (∀ k, i ≤ k → k < j → f k = true) → ∃ j, i ≤ j ∧ j < i + (s + m) ∧ g j = true ∧ ∀ k, i ≤ k → k < j → f k = true := by
  intro j
  induction j using Nat.strongRecOn with
  | ind j ih =>
    intro h1 h2 h3
    by_cases h : j < i + (s + m)
    · exact ⟨j, h1, h, h2, h3⟩
    · have e : g (j - m) = true := by
        have := hg (j - m) (by omega)
        rw [show j - m + m = j by omega] at this
        rw [← this]; exact h2
      exact ih (j - m) (by omega) (by omega) e (fun k a b => h3 k a (by omega))

theorem unt_all {s m : Nat} (hm : 0 < m) {f g : Nat → Bool} (hg : Per s m g) (i : Nat) : unt f g (s + m) i = true ↔ ∃ j, i ≤ j ∧ g j = true ∧ ∀ k, i ≤ k → k < j → f k = true := by
  rw [unt_iff]
  constructor
  · rintro ⟨j, h1, _, h3, h4⟩; exact ⟨j, h1, h3, h4⟩
  · rintro ⟨j, h1, h3, h4⟩; exact unt_back hm hg i j h1 h3 h4

theorem unt_step {s m : Nat} (hm : 0 < m) {f g : Nat → Bool} (hg : Per s m g) (i : Nat) : unt f g (s + m) i = (g i || (f i && unt f g (s + m) (i + 1))) := by
  rw [Bool.eq_iff_iff, Bool.or_eq_true, Bool.and_eq_true, unt_all hm hg, unt_all hm hg]
  constructor
  · rintro ⟨j, h1, h3, h4⟩
    by_cases e : j = i
    · subst e; exact Or.inl h3
    · exact Or.inr ⟨h4 i (Nat.le_refl _) (by omega), j, by omega, h3, fun k a b => h4 k (by omega) b⟩
  · rintro (h | ⟨h, j, h1, h3, h4⟩)
    · exact ⟨i, Nat.le_refl _, h, fun k a b => by omega⟩
    · refine ⟨j, by omega, h3, fun k a b => ?_⟩
      by_cases e : k = i
      · rw [e]; exact h
      · exact h4 k (by omega) b

theorem unt_per {s m : Nat} (hm : 0 < m) {f g : Nat → Bool} (hf : Per s m f) (hg : Per s m g) : Per s m (unt f g (s + m)) := by
  intro i hi
  rw [Bool.eq_iff_iff, unt_all hm hg, unt_all hm hg]
  constructor
  · rintro ⟨j, h1, h3, h4⟩
    refine ⟨j - m, by omega, ?_, fun k a b => ?_⟩
    · have := hg (j - m) (by omega)
      rw [show j - m + m = j by omega] at this
      rw [← this]; exact h3
    · have := hf k (by omega)
      rw [← this]; exact h4 (k + m) (by omega) (by omega)
  · rintro ⟨j, h1, h3, h4⟩
    refine ⟨j + m, by omega, by rw [hg j (by omega)]; exact h3, fun k a b => ?_⟩
    have := hf (k - m) (by omega)
    rw [show k - m + m = k by omega] at this
    rw [this]; exact h4 (k - m) (by omega) (by omega)

theorem per_not {s m : Nat} {f : Nat → Bool} (hf : Per s m f) : Per s m (fun k => !f k) := fun i hi => by show (!f (i + m)) = !f i; rw [hf i hi]

theorem rls_per {s m : Nat} (hm : 0 < m) {f g : Nat → Bool} (hf : Per s m f) (hg : Per s m g) : Per s m (rls f g (s + m)) := per_not (unt_per hm (per_not hf) (per_not hg))

theorem hb_eq (d : Nat) (A : Nat → Int → Bool) (t : Fml) (i : Nat) : hb d A t i = hbF d A t (t.reds (fun _ => false) (hbF d A)) i := congrFun (Fml.red_eq _ _ t) i
theorem hold_eq (A : Nat → Int → Bool) (t : Fml) (i : Nat) : hold A t i = holdF A t (t.reds (fun _ => False) (holdF A)) i := congrFun (Fml.red_eq _ _ t) i

/-- What is reckoned of the Kids: of those that there are. -/
theorem hb_kid {d : Nat} {A : Nat → Int → Bool} {t : Fml} {i : Nat} (h : i < t.cnt) : t.reds (fun _ => false) (hbF d A) i = hb d A (t.kid i) := Fml.reds_at h
theorem hb_none {d : Nat} {A : Nat → Int → Bool} {t : Fml} {i : Nat} (h : ¬ i < t.cnt) : t.reds (fun _ => false) (hbF d A) i = fun _ => false := if_neg h
theorem hold_kid {A : Nat → Int → Bool} {t : Fml} {i : Nat} (h : i < t.cnt) : t.reds (fun _ => False) (holdF A) i = hold A (t.kid i) := Fml.reds_at h
theorem hold_none {A : Nat → Int → Bool} {t : Fml} {i : Nat} (h : ¬ i < t.cnt) : t.reds (fun _ => False) (holdF A) i = fun _ => False := if_neg h

theorem hbF_per {s m : Nat} (hm : 0 < m) {A : Nat → Int → Bool} (hA : ∀ n, Per s m (fun i => A i n)) (t : Fml) {r : Nat → Nat → Bool} (hr : ∀ k, Per s m (r k)) : Per s m (hbF (s + m) A t r) := by
  intro i hi
  have h0 := hr 0 i hi
  have h1 := hr 1 i hi
  have h2 := hr 0 (i + 1) (by omega)
  have h3 : A (i + m) t.num = A i t.num := hA t.num i hi
  unfold hbF
  rw [show i + m + 1 = i + 1 + m by omega, h0, h1, h2, h3, unt_per hm (hr 0) (hr 1) i hi, rls_per hm (hr 0) (hr 1) i hi, unt_per hm (fun _ _ => rfl) (hr 0) i hi, rls_per hm (fun _ _ => rfl) (hr 0) i hi]

theorem hb_per {s m : Nat} (hm : 0 < m) {A : Nat → Int → Bool} (hA : ∀ n, Per s m (fun i => A i n)) : ∀ t, Per s m (hb (s + m) A t) := by
  intro t
  induction t using Fml.ind with
  | h t ih =>
    intro i hi
    rw [hb_eq, hb_eq]
    refine hbF_per hm hA t (fun k => ?_) i hi
    by_cases h : k < t.cnt
    · rw [hb_kid h]; exact ih k h
    · rw [hb_none h]; exact fun _ _ => rfl

theorem hbF_hold {s m : Nat} (hm : 0 < m) {A : Nat → Int → Bool} (t : Fml) {r : Nat → Nat → Bool} (hr : ∀ k, Per s m (r k)) {q : Nat → Nat → Prop} (hq : ∀ k i, r k i = true ↔ q k i) (i : Nat) : hbF (s + m) A t r i = true ↔ holdF A t q i := by
  have hq' : ∀ k i, q k i = (r k i = true) := fun k i => propext (hq k i).symm
  obtain rfl : q = fun k i => r k i = true := funext fun k => funext fun i => hq' k i
  have n9 : ∀ {f g : Nat → Bool}, Per s m g → (rls f g (s + m) i = true ↔ ¬ ∃ j, i ≤ j ∧ ¬ g j = true ∧ ∀ k, i ≤ k → k < j → ¬ f k = true) := by
    intro f g hg
    rw [rls, Bool.not_eq_true', ← Bool.not_eq_true, unt_all hm (per_not hg)]
    simp only [Bool.not_eq_true', Bool.not_eq_true]
  unfold hbF holdF
  by_cases h1 : t.kind = 1
  · rw [if_pos h1, if_pos h1]; exact ⟨fun _ => trivial, fun _ => rfl⟩
  rw [if_neg h1, if_neg h1]
  by_cases h1 : t.kind = 3
  · rw [if_pos h1, if_pos h1]
  rw [if_neg h1, if_neg h1]
  by_cases h1 : t.kind = 4
  · rw [if_pos h1, if_pos h1]; simp
  rw [if_neg h1, if_neg h1]
  by_cases h1 : t.kind = 5
  · rw [if_pos h1, if_pos h1]; simp
  rw [if_neg h1, if_neg h1]
  by_cases h1 : t.kind = 6
  · rw [if_pos h1, if_pos h1]; simp
  rw [if_neg h1, if_neg h1]
  by_cases h1 : t.kind = 7
  · rw [if_pos h1, if_pos h1]
  rw [if_neg h1, if_neg h1]
  by_cases h1 : t.kind = 8
  · rw [if_pos h1, if_pos h1, unt_all hm (hr 1)]
  rw [if_neg h1, if_neg h1]
  by_cases h1 : t.kind = 9
  · rw [if_pos h1, if_pos h1, n9 (hr 1)]
  rw [if_neg h1, if_neg h1]
  by_cases h1 : t.kind = 10
  · rw [if_pos h1, if_pos h1, unt_all hm (hr 0)]; simp
  rw [if_neg h1, if_neg h1]
  by_cases h1 : t.kind = 11
  · rw [if_pos h1, if_pos h1, n9 (hr 0)]; simp
  rw [if_neg h1, if_neg h1]; simp

theorem hb_hold {s m : Nat} (hm : 0 < m) {A : Nat → Int → Bool} (hA : ∀ n, Per s m (fun i => A i n)) : ∀ t i, hb (s + m) A t i = true ↔ hold A t i := by
  intro t
  induction t using Fml.ind with
  | h t ih =>
    intro i
    rw [hb_eq, hold_eq]
    refine hbF_hold hm t (fun k => ?_) (fun k i => ?_) i
    · by_cases h : k < t.cnt
      · rw [hb_kid h]; exact hb_per hm hA _
      · rw [hb_none h]; exact fun _ _ => rfl
    · by_cases h : k < t.cnt
      · rw [hb_kid h, hold_kid h]; exact ih k h i
      · rw [hb_none h, hold_none h]; simp

end Go.Proofs.YtmdpbaobihdgkaaGreatDoor

namespace Go.Proofs.YtmdpbaobihdgkaaGreatDoor
open Go.RowKit

theorem hold_red_on (A : Nat → Int → Bool) (k : Int) (t : Fml) : (on k t).reds (fun _ => False) (holdF A) 0 = hold A t := by rw [hold_kid (show 0 < 1 by decide), on_kid]
theorem hold_red_tw0 (A : Nat → Int → Bool) (k : Int) (t t2 : Fml) : (tw k t t2).reds (fun _ => False) (holdF A) 0 = hold A t := by rw [hold_kid (show 0 < 2 by decide), tw_kid0]
theorem hold_red_tw1 (A : Nat → Int → Bool) (k : Int) (t t2 : Fml) : (tw k t t2).reds (fun _ => False) (holdF A) 1 = hold A t2 := by rw [hold_kid (show 1 < 2 by decide), tw_kid1]

section
variable (A : Nat → Int → Bool) (f g : Fml) (i : Nat)
theorem hold_true (n : Int) : hold A (nd 1 n) i = True := by rw [hold_eq]; simp [holdF, nd]
theorem hold_until : hold A (tw 8 f g) i = ∃ j, i ≤ j ∧ hold A g j ∧ ∀ k, i ≤ k → k < j → hold A f k := by
  have e := hold_red_tw0 A 8 f g
  have e1 := hold_red_tw1 A 8 f g
  rw [hold_eq]
  generalize (tw 8 f g).reds (fun _ => False) (holdF A) = r at e e1 ⊢
  unfold holdF
  rw [e, e1]
  simp [tw]
theorem hold_release : hold A (tw 9 f g) i = ¬ ∃ j, i ≤ j ∧ ¬ hold A g j ∧ ∀ k, i ≤ k → k < j → ¬ hold A f k := by
  have e := hold_red_tw0 A 9 f g
  have e1 := hold_red_tw1 A 9 f g
  rw [hold_eq]
  generalize (tw 9 f g).reds (fun _ => False) (holdF A) = r at e e1 ⊢
  unfold holdF
  rw [e, e1]
  simp [tw]
end

end Go.Proofs.YtmdpbaobihdgkaaGreatDoor
