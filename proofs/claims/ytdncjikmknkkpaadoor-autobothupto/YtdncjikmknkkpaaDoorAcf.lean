/- acceptFrom: the spots that are met, then their parts. -/
import Derived.Test.YtdncjikmknkkpaaDoorAcf0
import Derived.Test.YtdncjikmknkkpaaDoorBase
import Derived.Test.YtdncjikmknkkpaaDoorSte
namespace Go.Proofs.YtdncjikmknkkpaaDoor
open Go.RowKit Go.Shelf

attribute [local go_sem] Oper.semAt_some

theorem Ls.add {w : World} {b n : Nat} {X : Nat → Nat → Nat} (h : Ls w b n X) {p s : Nat} (hp : p < n) (hs : s < 2048) : Ls (w.setCell ⟨b, p * 32 + s / 64, none⟩ (.int .u64 (sadd (X p) s (s / 64) : Nat))) b n (at1 X p (sadd (X p) s)) := by
  have := h.set hp (k := s / 64) (by omega) (sadd_small (h p hp).small hs _ (by omega) : sadd (X p) s (s / 64) < _)
  refine this.congr (fun i _ j _ => ?_)
  unfold at1
  split
  · simp only [sadd, upd_self]
  · rfl

theorem owns_but {w w' : World} {base : Nat} {e : TypeId} {size b : Nat} {v : Value} {n : Nat} {xs : List Value} (h : w.ownsRow base e size v n xs) (hb : But b w w') (hbb : b < base) : w'.ownsRow base e size v n xs :=
  h.kept (row := some b) ⟨hb.os, hb.tape, hb.output, hb.size, fun k hk hne => hb.block k hk (fun e => hne (by rw [e]))⟩ (by
    cases hv : v.ownBlock with
    | none => exact Or.inl rfl
    | some g => exact Or.inr (fun e => by
        rw [Option.some.injEq] at e
        have := (h.lt g hv).1
        omega))

end Go.Proofs.YtdncjikmknkkpaaDoor

