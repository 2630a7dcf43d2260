/- The leaves: At, next, the closures. -/
import Derived.Test.YtejombhfkobcbaaDoorWck
namespace Go.Proofs.YtejombhfkobcbaaDoor
open Go.RowKit

theorem ret_tup {a b : Value} {c d : Int} {k : IntKind} (h1 : a = b) (h2 : c = d) : Ending.returned (.tuple #[a, .int k c]) = .returned (.tuple #[b, .int k d]) := by rw [h1, h2]

/-- What At answers. -/
def atV (s m : Nat) (S L : Nat → Int) (i : Int) : Int × Int := if wchk s m ≠ 0 then (0, wchk s m) else if i < 0 then (0, 1) else (ltr s m S L i.toNat, 0)

set_option maxHeartbeats 1000000 in
theorem at_any {sa : Option Addr} {s sc : Nat} {la : Option Addr} {m lc : Nat} {S L : Nat → Int} {w : World} (hw : Wd w sa s la m S L) (i : Int) (hi : i ≤ 9223372036854775807) :
    Calls Tryd.prog 9 #[.agg #[.slice sa s sc, .slice la m lc], .int .i64 i] w fun e w' => e = .returned (.tuple #[.int .u64 (atV s m S L i).1, .int .i64 (atV s m S L i).2]) ∧ Below w.heap.size w w' := by
  have C0 : Hid (∀ u, Calls Tryd.prog 10 #[.agg #[.slice sa s sc, .slice la m lc]] u fun e w' => e = .returned (.int .i64 (wchk s m)) ∧ Below u.heap.size u w') := fun u => wcheck_any sa s sc la m lc u hw.s47 hw.m47
  have HE : Hid (atV s m S L i = if wchk s m ≠ 0 then (0, wchk s m) else if i < 0 then (0, 1) else (ltr s m S L i.toNat, 0)) := hid rfl
  have HW := hid hw
  have HOK : Hid (wchk s m = 0 → s + m ≤ 60 ∧ 0 < m) := wchk_ok
  obtain ⟨u, hu⟩ : ∃ x, x = w.alloc (.cells #[.slice sa s sc, .slice la m lc] 27) := ⟨_, rfl⟩
  have HU := hid hu
  have hB : Below w.heap.size w u := by rw [hu]; exact box_below _ _
  have hx0 : u.cell? ⟨w.heap.size, 0, none⟩ = some (.slice sa s sc) := by rw [hu]; exact cell_of_alloc rfl
  have hx1 : u.cell? ⟨w.heap.size, 1, none⟩ = some (.slice la m lc) := by rw [hu]; exact cell_of_alloc rfl
  have HX : Hid (∀ v, Below u.heap.size u v → v.cell? ⟨w.heap.size, 0, none⟩ = some (.slice sa s sc) ∧ v.cell? ⟨w.heap.size, 1, none⟩ = some (.slice la m lc) ∧ Below w.heap.size w v ∧ Wd v sa s la m S L) := fun v hv =>
    ⟨below_cell hv (Nat.le_refl _) hx0, below_cell hv (Nat.le_refl _) hx1, hB.trans (hv.mono hB.size), (hw.below hB).below hv⟩
  have C := hid (C0.out u)
  clear hu hw hB hx0 hx1 C0
  by_cases h0 : wchk s m = 0
  · obtain ⟨h60, hm⟩ := HOK.out h0
    rw [h0] at C HE
    clear h0 HOK
    by_cases h1 : i < 0
    · have E : Hid (atV s m S L i = (0, 1)) := HE.out.trans ((if_neg (by decide)).trans (if_pos h1))
      rw [E.out]
      clear HE
      go_enter Tryd.func9, Tryd.ntmps9
      go_wp2_with fail
      rw [← HU.out]
      refine C.out.mono ?_
      rintro e w2 ⟨rfl, hb⟩
      have H2 := hid (HX.out w2 hb)
      clear hb C HX
      go_wp2
      go_ret2
      exact ⟨rfl, H2.out.2.2.1⟩
    have E0 : Hid (atV s m S L i = (ltr s m S L i.toNat, 0)) := HE.out.trans ((if_neg (by decide)).trans (if_neg h1))
    clear HE
    obtain ⟨k, rfl⟩ : ∃ k : Nat, i = k := ⟨i.toNat, by omega⟩
    have E : Hid (atV s m S L (k : Int) = (ltr s m S L k, 0)) := E0.out
    rw [E.out]
    clear E0 h1
    by_cases h2 : k < s
    · have E2 : Hid (ltr s m S L k = S k) := ltr_stem h2
      rw [E2.out]
      go_enter Tryd.func9, Tryd.ntmps9
      go_wp2_with fail
      rw [← HU.out]
      refine C.out.mono ?_
      rintro e w2 ⟨rfl, hb⟩
      obtain ⟨g0, g1, hb2, hwd⟩ := HX.out w2 hb
      obtain ⟨sb, so, hsa, hsc⟩ := hwd.stem
      obtain rfl := hsa (by omega)
      have hc := hsc k h2
      have H2 := hid hb2
      clear hb C HX hb2 hwd hsc hsa
      go_wp2
      go_ret2
      exact ⟨rfl, H2.out⟩
    · have E2 : Hid (ltr s m S L k = L ((k - s) % m)) := ltr_far (by omega)
      rw [E2.out]
      have hr := Nat.mod_lt (k - s) hm
      have e1 : (k : Int) - s = ((k - s : Nat) : Int) := by omega
      have e2 : ((k - s : Nat) : Int) % (m : Int) = ((k - s) % m : Nat) := by omega
      generalize (k - s) % m = r at *
      go_enter Tryd.func9, Tryd.ntmps9
      go_wp2_with fail
      rw [← HU.out]
      refine C.out.mono ?_
      rintro e w2 ⟨rfl, hb⟩
      obtain ⟨g0, g1, hb2, hwd⟩ := HX.out w2 hb
      obtain ⟨lb, lo, hla, hlc⟩ := hwd.loop
      obtain rfl := hla hm
      have hc := hlc r hr
      have H2 := hid hb2
      clear hb C HX hb2 hwd hlc hla
      go_wp2
      go_quiet (fail)
      go_wp2
      go_ret2
      exact ⟨rfl, below_drewN H2.out _⟩
  · have E : Hid (atV s m S L i = (0, wchk s m)) := HE.out.trans (if_pos h0)
    rw [E.out]
    clear HE HOK
    generalize wchk s m = q at *
    have hq : (q == 0) = false := beq_eq_false_iff_ne.2 h0
    clear h0
    go_enter Tryd.func9, Tryd.ntmps9
    go_wp2_with fail
    rw [← HU.out]
    refine C.out.mono ?_
    rintro e w2 ⟨rfl, hb⟩
    have H2 := hid (HX.out w2 hb)
    clear hb C HX
    go_wp2
    go_ret2
    exact ⟨rfl, H2.out.2.2.1⟩

/-- The place behind a place. -/
def nx (n again p : Nat) : Nat := if p + 1 < n then p + 1 else again

theorem next_any (la : Option Addr) (n lc again p : Nat) (w : World) (_hn : n ≤ 60) (hp : p < 60) :
    Calls Tryd.prog 48 #[.agg #[.slice la n lc, .int .i64 again], .int .i64 p] w fun e w' => e = .returned (.int .i64 (nx n again p)) ∧ Below w.heap.size w w' := by
  unfold nx
  by_cases h : p + 1 < n
  · rw [if_pos h]
    go_enter Tryd.func48, Tryd.ntmps48
    go_wp2
    go_ret
    exact ⟨by first | rfl | (exact ret_int (by omega)), box_below _ _⟩
  · rw [if_neg h]
    go_enter Tryd.func48, Tryd.ntmps48
    go_wp2
    go_ret
    exact ⟨rfl, box_below _ _⟩

theorem all1_any (b : Nat) (v : Bool) (p : Int) (w : World) (h : w.cell? ⟨b, 0, none⟩ = some (.bool v)) :
    Calls Tryd.prog 60 #[.int .i64 p, .pointer (some ⟨b, 0, none⟩)] w fun e w' => e = .returned (.bool v) ∧ w' = w := by
  go_enter Tryd.func60, Tryd.ntmps60
  go_wp2
  go_ret
  exact ⟨rfl, rfl⟩

/-- A list of bools for each Kid, in block kb of pointers ka. -/
structure Kb (w : World) (a : Option Addr) (c n : Nat) (K : Nat → Nat → Bool) : Prop where
  row : ∃ b o, (0 < c → a = some ⟨b, o, none⟩) ∧ ∀ i, i < c → ∃ ai ci, w.cell? ⟨b, o + i, none⟩ = some (.slice ai n ci) ∧ RowB w ai n (K i)

theorem Kb.below {w w' : World} {a : Option Addr} {c n : Nat} {K : Nat → Nat → Bool} (h : Kb w a c n K) (hb : Below w.heap.size w w') : Kb w' a c n K := by
  obtain ⟨b, o, h1, h2⟩ := h.row
  refine ⟨b, o, h1, fun i hi => ?_⟩
  obtain ⟨ai, ci, g1, g2⟩ := h2 i hi
  exact ⟨ai, ci, below_cell hb (Nat.le_refl _) g1, g2.below hb⟩

/-- The cells of the Kid i at the place p. -/
theorem Kb.at {w : World} {a : Option Addr} {c n : Nat} {K : Nat → Nat → Bool} (h : Kb w a c n K) (hc : 0 < c) : ∃ b o, a = some ⟨b, o, none⟩ ∧ ∀ i, i < c → ∃ ci ai, w.cell? ⟨b, o + i, none⟩ = some (.slice ai n ci) ∧ ∀ p, p < n → ∃ bi oi, ai = some ⟨bi, oi, none⟩ ∧ w.cell? ⟨bi, oi + p, none⟩ = some (.bool (K i p)) := by
  obtain ⟨b, o, h1, h2⟩ := h.row
  refine ⟨b, o, h1 hc, fun i hi => ?_⟩
  obtain ⟨ai, ci, g1, bi, oi, g2, g3⟩ := h2 i hi
  exact ⟨ci, ai, g1, fun p hp => ⟨bi, oi, g2 (by omega), g3 p hp⟩⟩

set_option maxHeartbeats 400000 in
theorem now2_any {w : World} {kb : Nat} {a : Option Addr} {c cc n : Nat} {K : Nat → Nat → Bool} (hk : w.cell? ⟨kb, 0, none⟩ = some (.slice a c cc)) (h : Kb w a c n K) (hc : 0 < c) (_hn : n ≤ 60) (p : Nat) (hp : p < n) :
    Calls Tryd.prog 62 #[.int .i64 p, .pointer (some ⟨kb, 0, none⟩)] w fun e w' => e = .returned (.bool (!K 0 p)) ∧ w' = w := by
  obtain ⟨b, o, rfl, h2⟩ := h.at hc
  obtain ⟨ci, ai, g1, g2⟩ := h2 0 hc
  obtain ⟨bi, oi, rfl, g3⟩ := g2 p hp
  rw [Nat.add_zero] at g1
  clear h h2 g2
  go_enter Tryd.func62, Tryd.ntmps62
  go_wp2
  go_ret
  exact ⟨rfl, rfl⟩

set_option maxHeartbeats 400000 in
theorem now3_any {w : World} {kb : Nat} {a : Option Addr} {c cc n : Nat} {K : Nat → Nat → Bool} (hk : w.cell? ⟨kb, 0, none⟩ = some (.slice a c cc)) (h : Kb w a c n K) (hc : 1 < c) (_hn : n ≤ 60) (p : Nat) (hp : p < n) :
    Calls Tryd.prog 63 #[.int .i64 p, .pointer (some ⟨kb, 0, none⟩)] w fun e w' => e = .returned (.bool (K 0 p && K 1 p)) ∧ w' = w := by
  obtain ⟨b, o, rfl, h2⟩ := h.at (by omega)
  obtain ⟨ci, ai, g1, g2⟩ := h2 0 (by omega)
  obtain ⟨bi, oi, rfl, g3⟩ := g2 p hp
  obtain ⟨ci', ai', g1', g2'⟩ := h2 1 (by omega)
  obtain ⟨bi', oi', rfl, g3'⟩ := g2' p hp
  rw [Nat.add_zero] at g1
  clear h h2 g2 g2'
  generalize K 0 p = x at *
  generalize K 1 p = y at *
  cases x <;> (go_enter Tryd.func63, Tryd.ntmps63; go_wp2; go_ret; exact ⟨rfl, rfl⟩)

set_option maxHeartbeats 400000 in
theorem now4_any {w : World} {kb : Nat} {a : Option Addr} {c cc n : Nat} {K : Nat → Nat → Bool} (hk : w.cell? ⟨kb, 0, none⟩ = some (.slice a c cc)) (h : Kb w a c n K) (hc : 1 < c) (_hn : n ≤ 60) (p : Nat) (hp : p < n) :
    Calls Tryd.prog 64 #[.int .i64 p, .pointer (some ⟨kb, 0, none⟩)] w fun e w' => e = .returned (.bool (K 0 p || K 1 p)) ∧ w' = w := by
  obtain ⟨b, o, rfl, h2⟩ := h.at (by omega)
  obtain ⟨ci, ai, g1, g2⟩ := h2 0 (by omega)
  obtain ⟨bi, oi, rfl, g3⟩ := g2 p hp
  obtain ⟨ci', ai', g1', g2'⟩ := h2 1 (by omega)
  obtain ⟨bi', oi', rfl, g3'⟩ := g2' p hp
  rw [Nat.add_zero] at g1
  clear h h2 g2 g2'
  generalize K 0 p = x at *
  generalize K 1 p = y at *
  cases x <;> (go_enter Tryd.func64, Tryd.ntmps64; go_wp2; go_ret; exact ⟨rfl, rfl⟩)

end Go.Proofs.YtejombhfkobcbaaDoor
