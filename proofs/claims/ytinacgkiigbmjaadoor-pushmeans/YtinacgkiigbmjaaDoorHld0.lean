/- holds: where a formula holds, at each place of a row of letters. -/
import Derived.Test.YtinacgkiigbmjaaDoorNow
import Derived.Deep.CutRange
namespace Go.Proofs.YtinacgkiigbmjaaDoor
open Go.RowKit

theorem Tryd.info51 : (Tryd.prog.info? 51).map (fun i => (i.zero, i.size, i.bytes)) = some (some (.slice none 0 0), 1, 24) := by kernel_rfl

/-- The lists of the first k Kids lie in block b. -/
structure Kp (w : World) (b c k n : Nat) (K : Nat → Nat → Bool) : Prop where
  row : ∃ V : Nat → Nat, w.rowIs b 51 c (fun i => if i < k then .slice (some ⟨V i, 0, none⟩) n n else .slice none 0 0) ∧ ∀ i, i < k → w.rowIs (V i) 4 n (fun p => .bool (K i p))

theorem Kp.below {w w' : World} {b c k n : Nat} {K : Nat → Nat → Bool} (h : Kp w b c k n K) (hb : Below w.heap.size w w') : Kp w' b c k n K := by
  obtain ⟨V, h1, h2⟩ := h.row
  exact ⟨V, rowIs_below h1 hb, fun i hi => rowIs_below (h2 i hi) hb⟩

theorem Kp.kb {w : World} {b c n : Nat} {K : Nat → Nat → Bool} (h : Kp w b c c n K) : Kb w (some ⟨b, 0, none⟩) c n K := by
  obtain ⟨V, h1, h2⟩ := h.row
  refine ⟨b, 0, fun _ => rfl, fun i hi => ⟨some ⟨V i, 0, none⟩, n, ?_, rowIs_rowB (h2 i hi)⟩⟩
  have := h1.cell hi
  rw [if_pos hi] at this
  rw [Nat.zero_add]
  exact this

theorem rowIs_ne {w : World} {b b' n n' : Nat} {t t' : TypeId} {f f' : Nat → Value} (h : w.rowIs b t n f) (h' : w.rowIs b' t' n' f') (ht : t ≠ t') : b ≠ b' := by
  rintro rfl
  obtain ⟨c, e, _⟩ := h
  obtain ⟨c', e', _⟩ := h'
  rw [e] at e'
  injection e' with e'
  injection e' with _ e''
  exact ht e''

/-- One more list. -/
theorem Kp.put {w : World} {b c k n v : Nat} {K : Nat → Nat → Bool} (h : Kp w b c k n K) (hv : w.rowIs v 4 n (fun p => .bool (K k p))) : Kp (w.setCell ⟨b, k, none⟩ (.slice (some ⟨v, 0, none⟩) n n)) b c (k + 1) n K := by
  obtain ⟨V, h1, h2⟩ := h.row
  refine ⟨fun i => if i = k then v else V i, (h1.set k _).congr (fun i hi => ?_), fun i hi => ?_⟩
  · by_cases e : i = k
    · subst e; simp
    · rw [if_neg e]
      by_cases e2 : i < k
      · rw [if_pos e2, if_pos (by omega)]; simp only [if_neg e]
      · rw [if_neg e2, if_neg (by omega)]
  · by_cases e : i = k
    · subst e
      simp only [if_true]
      exact hv.setOther (rowIs_ne hv h1 (by decide)) _
    · simp only [if_neg e]
      have := h2 i (by omega)
      exact this.setOther (rowIs_ne this h1 (by decide)) _

/-- The boxes of holds: the row, the formula, the variable kids. -/
structure Hx (w : World) (B : Nat) (la : Option Addr) (n lc : Nat) (s : Int) (k x : Int) (ka : Option Addr) (c kc : Nat) : Prop where
  r0 : w.cell? ⟨B, 0, none⟩ = some (.slice la n lc)
  r1 : w.cell? ⟨B, 1, none⟩ = some (.int .i64 s)
  f0 : w.cell? ⟨B + 1, 0, none⟩ = some (.int .i64 k)
  f1 : w.cell? ⟨B + 1, 1, none⟩ = some (.int .i64 x)
  f2 : w.cell? ⟨B + 1, 2, none⟩ = some (.slice ka c kc)
  kv : w.cell? ⟨B + 1 + 1 + 1, 0, none⟩ = some (.slice (some ⟨B + 1 + 1, 0, none⟩) c c)

theorem Hx.below {w w' : World} {B : Nat} {la : Option Addr} {n lc : Nat} {s k x : Int} {ka : Option Addr} {c kc : Nat} (h : Hx w B la n lc s k x ka c kc) (hb : Below w.heap.size w w') : Hx w' B la n lc s k x ka c kc :=
  ⟨below_cell hb (Nat.le_refl _) h.r0, below_cell hb (Nat.le_refl _) h.r1, below_cell hb (Nat.le_refl _) h.f0, below_cell hb (Nat.le_refl _) h.f1, below_cell hb (Nat.le_refl _) h.f2, below_cell hb (Nat.le_refl _) h.kv⟩

theorem Hx.but {w w' : World} {B : Nat} {la : Option Addr} {n lc : Nat} {s k x : Int} {ka : Option Addr} {c kc : Nat} (h : Hx w B la n lc s k x ka c kc) (hb : But (B + 1 + 1) w w') : Hx w' B la n lc s k x ka c kc :=
  ⟨hb.cell (by show B ≠ B + 1 + 1; omega) h.r0, hb.cell (by show B ≠ B + 1 + 1; omega) h.r1, hb.cell (by show B + 1 ≠ B + 1 + 1; omega) h.f0, hb.cell (by show B + 1 ≠ B + 1 + 1; omega) h.f1, hb.cell (by show B + 1 ≠ B + 1 + 1; omega) h.f2, hb.cell (by show B + 1 + 1 + 1 ≠ B + 1 + 1; omega) h.kv⟩

theorem keep_set {w : World} {q j : Nat} {v x : Value} {a : Addr} (h : w.cell? a = some x) (hne : a.block ≠ q) : (w.setCell ⟨q, j, none⟩ v).cell? a = some x := ((But.refl q w).setCell j v).cell hne h

theorem NewB.of_drew {w0 : World} {n : Nat} {F : Nat → Bool} {e : Ending} {w : World} (h : NewB w0.drew n F e w) : NewB w0 n F e w := by
  obtain ⟨b, h1, h2, h3, h4⟩ := h
  exact ⟨b, h1, h2, h3, below_of_drewB h4⟩

theorem hb_k {d : Nat} {A : Nat → Int → Bool} {t : Fml} {p : Nat} : hb d A t p = hbF d A t (t.reds (fun _ => false) (hbF d A)) p := hb_eq d A t p

end Go.Proofs.YtinacgkiigbmjaaDoor
