/- truth. -/
import Derived.Test.YtinacgkiigbmjaaDoorMkf
import Derived.Test.YtinacgkiigbmjaaDoorHldF
namespace Go.Proofs.YtinacgkiigbmjaaDoor
open Go.RowKit

/-- What truth answers. -/
def trV (t : Fml) (s m : Nat) (S L : Nat → Int) : Bool × Bool := if hchk t s m = 0 then (hb (s + m) (atm s m S L) t 0, true) else (false, false)

set_option maxHeartbeats 2000000 in
theorem truth_any {w : World} {t : Fml} {a : Option Addr} {cap : Nat} {sa : Option Addr} {s sc : Nat} {la : Option Addr} {m lc : Nat} {S L : Nat → Int} (h : Fw w t a sa s sc la m lc S L) :
    Calls Tryd.prog 18 #[.agg #[.int .i64 t.kind, .int .i64 t.num, .slice a t.cnt cap], .agg #[.slice sa s sc, .slice la m lc]] w fun e w' => e = .returned (.tuple #[.bool (trV t s m S L).1, .bool (trV t s m S L).2]) ∧ Below w.heap.size w w' := by
  obtain ⟨u, hu⟩ : ∃ y, y = (w.alloc (.cells #[.int .i64 t.kind, .int .i64 t.num, .slice a t.cnt cap] 24)).alloc (.cells #[.slice sa s sc, .slice la m lc] 34) := ⟨_, rfl⟩
  have hB : Below w.heap.size w u := by rw [hu]; exact below_alloc2 _ _ _
  have HU := hid hu
  have HB := hid hB
  have hF := h.below hB
  by_cases h0 : hchk t s m = 0
  · have C := hid (holdsF_ok (cap := cap) hF h0)
    have hE : trV t s m S L = (hb (s + m) (atm s m S L) t 0, true) := if_pos h0
    have hpos : 0 < s + m := by
      unfold hchk at h0
      by_cases hc : (chk t 1 0).1 = 0
      · rw [if_neg (by rw [hc]; decide)] at h0
        have := wchk_ok h0
        omega
      · rw [if_pos hc] at h0
        exact absurd h0 hc
    rw [hE]
    clear hE hu hB hF h h0
    generalize hb (s + m) (atm s m S L) t = F at *
    obtain ⟨n, hn⟩ : ∃ n, n = s + m := ⟨_, rfl⟩
    rw [← hn] at C hpos
    clear hn
    go_enter Tryd.func18, Tryd.ntmps18
    go_wp2_with fail
    rw [← HU.out]
    refine C.out.mono ?_
    rintro e w2 ⟨b, rfl, _, hr, hb⟩
    have hc0 := hr.cell hpos
    have hnz : ((n : Int) == 0) = false := beq_eq_false_iff_ne.2 (by omega)
    have hn0 : ¬ n = 0 := by omega
    have HB2 := hid (HB.out.trans (hb.mono HB.out.size))
    clear hr hb C
    go_wp2
    go_ret2
    exact ⟨rfl, HB2.out⟩
  · have C := hid (holdsF_bad (cap := cap) hF h0)
    have hE : trV t s m S L = (false, false) := if_neg h0
    rw [hE]
    generalize hchk t s m = q at *
    have hq : (q == 0) = false := beq_eq_false_iff_ne.2 h0
    clear hE hu hB hF h
    go_enter Tryd.func18, Tryd.ntmps18
    go_wp2_with fail
    rw [← HU.out]
    refine C.out.mono ?_
    rintro e w2 ⟨rfl, hb⟩
    have HB2 := hid (HB.out.trans (hb.mono HB.out.size))
    clear hb C
    go_wp2
    go_ret2
    exact ⟨rfl, HB2.out⟩

end Go.Proofs.YtinacgkiigbmjaaDoor
