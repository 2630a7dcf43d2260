/- least: the least form of a word. -/
import Derived.Test.YtdncjikmknkkpaaDoorLea
namespace Go.Proofs.YtdncjikmknkkpaaDoor
open Go.RowKit

/-- The Loop, begun at be, is what comes from the place st on. -/
def Rot (f : Nat → Int) (L : Nat → Int) (p st be : Nat) : Prop := be < p ∧ Per st p f ∧ ∀ i, f (st + i) = L ((be + i) % p)

theorem rot_start {s m : Nat} {S L : Nat → Int} {p : Nat} (hm : 0 < m) (h : Prd m L p) (hpm : p ≤ m) : Rot (ltr s m S L) L p s 0 := by
  have hp := (prd_least (s := s) (S := S) hm h).1
  refine ⟨h.pos, hp, fun i => ?_⟩
  have h1 := Per.mul hp (i / p) (s + i % p) (by omega)
  rw [show s + i % p + p * (i / p) = s + i by have := Nat.mod_add_div i p; omega] at h1
  rw [h1, Nat.zero_add]
  exact ltr_loop (Nat.lt_of_lt_of_le (Nat.mod_lt _ h.pos) hpm)

theorem rot_back {f : Nat → Int} {L : Nat → Int} {p st be : Nat} (h : Rot f L p (st + 1) be) (he : f st = L ((be + p - 1) % p)) : Rot f L p st ((be + p - 1) % p) := by
  obtain ⟨h1, h2, h3⟩ := h
  have hp : 0 < p := by omega
  refine ⟨Nat.mod_lt _ hp, fun i hi => ?_, fun i => ?_⟩
  · by_cases e : i = st
    · subst e
      have := h3 (p - 1)
      rw [show i + 1 + (p - 1) = i + p by omega, show be + (p - 1) = be + p - 1 by omega] at this
      rw [this, he]
    · exact h2 i (by omega)
  · rw [Nat.mod_add_mod]
    cases i with
    | zero => simpa using he
    | succ i =>
      have := h3 i
      rw [show st + (i + 1) = st + 1 + i by omega, this, show be + p - 1 + (i + 1) = be + i + p by omega, Nat.add_mod_right]

theorem rot_last {f : Nat → Int} {L : Nat → Int} {p st be : Nat} (h : Rot f L p (st + 1) be) : L ((be + p - 1) % p) = f (st + p) := by
  obtain ⟨h1, _, h3⟩ := h
  have := h3 (p - 1)
  rw [show st + 1 + (p - 1) = st + p by omega, show be + (p - 1) = be + p - 1 by omega] at this
  exact this.symm

/-- A word, made anew: so many letters of f in its Stem, so many behind them in its Loop. -/
def NewW (w0 : World) (f : Nat → Int) (st lp : Nat) (e : Ending) (w : World) : Prop :=
  ∃ a c b d, e = .returned (.agg #[.slice a st c, .slice b lp d]) ∧ (a = none → st = 0 ∧ c = 0) ∧ (b = none → lp = 0 ∧ d = 0) ∧ st ≤ c ∧ lp ≤ d ∧ RowU w a st f ∧ RowU w b lp (fun i => f (st + i)) ∧ Below w0.heap.size w0 w

theorem fz_of {w : World} {x : Nat} {c : Array Value} {t : TypeId} (h : w.heap[x]? = some (.cells c t (0, 0))) (i : Nat) : w.frozen? ⟨x, i, none⟩ = false := by simp [World.frozen?, h]

theorem two_set {w : World} {x : Nat} {u v : Value} {t : TypeId} (h : w.heap[x]? = some (.cells #[u, v] t (0, 0))) (a b : Value) : ((w.setCell ⟨x, 0, none⟩ a).setCell ⟨x, 1, none⟩ b).heap[x]? = some (.cells #[a, b] t (0, 0)) := by
  simp [World.setCell, Array.getElem?_modify, h]

theorem sl_any (x : Addr) (len cap h : Nat) (hh : h ≤ cap) (w : World) : (Instr.slice 24 (.slice (some x) len cap) none (some (.int .i64 h)) none).run Tryd.prog w = .ok (.slice (some x) h cap) w := by
  rw [run_slice_h (P := Tryd.prog) (w := w) 24 (some x) len cap Tryd.elem25 .i64 h (by omega) (by omega), size30]
  have e : x.add 0 = x := by obtain ⟨b, o, s⟩ := x; unfold Addr.add; split <;> simp_all
  simp [Result.andThen, sliced, e]

theorem RowU.but {w w' : World} {a : Option Addr} {n b : Nat} {Z : Nat → Int} (h : RowU w a n Z) (hb : But b w w') (hne : ∀ x, a = some x → x.block ≠ b) : RowU w' a n Z := by
  obtain ⟨c, o, h1, h2⟩ := h
  refine ⟨c, o, h1, fun i hi => hb.cell (hne ⟨c, o, none⟩ (h1 (by omega))) (h2 i hi)⟩

end Go.Proofs.YtdncjikmknkkpaaDoor
