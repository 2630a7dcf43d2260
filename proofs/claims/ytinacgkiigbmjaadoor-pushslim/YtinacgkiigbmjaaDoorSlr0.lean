/- The document's slimmer: what is common. -/
import Derived.Test.YtinacgkiigbmjaaDoorLaw
namespace Go.Proofs.YtinacgkiigbmjaaDoor
open Go.RowKit

theorem four_new (w : World) (x : Array Value) : ∀ u, u = (((w.alloc (.cells x 24)).alloc (.cells #[.int .i64 0, .int .i64 0, .slice none 0 0] 24)).alloc (.cells #[.int .i64 0, .int .i64 0, .slice none 0 0] 24)).alloc (.cells #[.int .i64 0, .int .i64 0, .slice none 0 0] 24) → u.heap.size = w.heap.size + 1 + 1 + 1 + 1 ∧ Below w.heap.size w u ∧ u.heap[w.heap.size]? = some (.cells x 24) ∧ u.heap[w.heap.size + 1]? = some (.cells #[.int .i64 0, .int .i64 0, .slice none 0 0] 24) ∧ u.heap[w.heap.size + 1 + 1]? = some (.cells #[.int .i64 0, .int .i64 0, .slice none 0 0] 24) ∧ u.heap[w.heap.size + 1 + 1 + 1]? = some (.cells #[.int .i64 0, .int .i64 0, .slice none 0 0] 24) := by
  rintro u rfl
  obtain ⟨e3, h1, h2, h3, h4⟩ := three_new w x 24 #[.int .i64 0, .int .i64 0, .slice none 0 0] 24 #[.int .i64 0, .int .i64 0, .slice none 0 0] _ rfl
  exact ⟨by simp, h1.alloc (by omega) _, alloc_old _ h2, alloc_old _ h3, alloc_old _ h4, alloc_last _ e3⟩

/-- A formula and the rest of the memory that slimmer has laid out. -/
structure Sr (w : World) (f k0 kl : Fml) (a a0 al : Option Addr) (cap c0 cl : Nat) (wd : World) (x5 : Nat) : Prop where
  bel : Below w.heap.size w wd
  bx : Tri wd w.heap.size (.int .i64 f.kind) (.int .i64 f.num) (.slice a f.cnt cap)
  rs : Tri wd (w.heap.size + 1) (.int .i64 0) (.int .i64 0) (.slice none 0 0)
  ka : Tri wd (w.heap.size + 1 + 1) (.int .i64 k0.kind) (.int .i64 k0.num) (.slice a0 k0.cnt c0)
  kb : Tri wd (w.heap.size + 1 + 1 + 1) (.int .i64 kl.kind) (.int .i64 kl.num) (.slice al kl.cnt cl)
  ys : Tri wd x5 (.int .i64 1) (.int .i64 0) (.slice none 0 0)
  ns : Tri wd (x5 + 1) (.int .i64 2) (.int .i64 0) (.slice none 0 0)
  lt : w.heap.size + 1 + 1 + 1 < x5

theorem Sr.below {w : World} {f k0 kl : Fml} {a a0 al : Option Addr} {cap c0 cl : Nat} {wd w' : World} {x5 : Nat} (h : Sr w f k0 kl a a0 al cap c0 cl wd x5) (hb : Below wd.heap.size wd w') : Sr w f k0 kl a a0 al cap c0 cl w' x5 :=
  ⟨h.bel.trans (hb.mono h.bel.size), h.bx.below hb, h.rs.below hb, h.ka.below hb, h.kb.below hb, h.ys.below hb, h.ns.below hb, h.lt⟩

theorem sr_made {w w6 : World} {f k0 kl : Fml} {a a0 al : Option Addr} {cap c0 cl : Nat} (hB : Below w.heap.size w w6) (h1 : Tri w6 w.heap.size (.int .i64 f.kind) (.int .i64 f.num) (.slice a f.cnt cap)) (h2 : Tri w6 (w.heap.size + 1) (.int .i64 0) (.int .i64 0) (.slice none 0 0))
    (h3 : Tri w6 (w.heap.size + 1 + 1) (.int .i64 k0.kind) (.int .i64 k0.num) (.slice a0 k0.cnt c0)) (h4 : Tri w6 (w.heap.size + 1 + 1 + 1) (.int .i64 kl.kind) (.int .i64 kl.num) (.slice al kl.cnt cl)) :
    ∀ wd, wd = (w6.alloc (.cells #[.int .i64 1, .int .i64 0, .slice none 0 0] 24)).alloc (.cells #[.int .i64 2, .int .i64 0, .slice none 0 0] 24) → Sr w f k0 kl a a0 al cap c0 cl wd w6.heap.size := by
  intro wd hwd
  obtain ⟨_, hb, h5, h6⟩ := two_new w6 _ _ _ _ hwd
  exact ⟨hB.trans (hb.mono hB.size), h1.below hb, h2.below hb, h3.below hb, h4.below hb, h5, h6, h4.lt⟩

end Go.Proofs.YtinacgkiigbmjaaDoor
