/- The graph turned round: what comes (ported). -/
import Derived.Test.YtgahdclbaifcbaaScDistJ
import Derived.Test.YtgahdclbaifcbaaScParts
import Derived.Test.YtgahdclbaifcbaaFamJ
namespace Go.Proofs.Ytgahdclbaifcbaa
open Go.RowKit

theorem ed_ego {G : Nat} {L : Nat → Nat} {Z : Nat → Nat → Int} : Ed G L Z = Ego G L Z := by
  funext x y
  unfold Ed Ego
  rw [sc_has_iff]

/-- The graph turned round. -/
def tL (L : Nat → Nat) (Z : Nat → Nat → Int) (G j : Nat) : Nat := (tl L Z G j).length
def tZ (L : Nat → Nat) (Z : Nat → Nat → Int) (G j i : Nat) : Int := (tl L Z G j).getD i 0

section
variable {G : Nat} {L : Nat → Nat} {Z : Nat → Nat → Int}

theorem tl_mem (j : Nat) (x : Int) : x ∈ tl L Z G j ↔ ∃ q : Nat, q < G ∧ has (L q) (Z q) j = true ∧ x = q := by
  unfold tl
  rw [List.mem_map]
  constructor
  · rintro ⟨q, hq, rfl⟩
    obtain ⟨h1, h2⟩ := List.mem_filter.1 hq
    exact ⟨q, List.mem_range.1 h1, h2, rfl⟩
  · rintro ⟨q, hq, h, rfl⟩
    exact ⟨q, List.mem_filter.2 ⟨List.mem_range.2 hq, h⟩, rfl⟩

theorem tZ_mem (j i : Nat) (hi : i < tL L Z G j) : tZ L Z G j i ∈ tl L Z G j := by
  unfold tZ
  rw [List.getD_eq_getElem?_getD, List.getElem?_eq_getElem hi]
  exact List.getElem_mem hi

theorem has_turn (j q : Nat) : has (tL L Z G j) (tZ L Z G j) q = true ↔ q < G ∧ has (L q) (Z q) j = true := by
  rw [sc_has_iff]
  constructor
  · rintro ⟨i, hi, e⟩
    have h := tZ_mem j i hi
    rw [e] at h
    obtain ⟨q', h1, h2, e'⟩ := (tl_mem j _).1 h
    have : q' = q := by omega
    subst this
    exact ⟨h1, h2⟩
  · rintro ⟨h1, h2⟩
    obtain ⟨i, hi, e⟩ := List.mem_iff_getElem.1 ((tl_mem (L := L) (Z := Z) (G := G) j q).2 ⟨q, h1, h2, rfl⟩)
    refine ⟨i, hi, ?_⟩
    unfold tZ
    rw [List.getD_eq_getElem?_getD, List.getElem?_eq_getElem hi]
    exact e

theorem turn_errG (h : errG G L Z = 0) : errG G (tL L Z G) (tZ L Z G) = 0 := by
  have hG := (errG_zero h).1
  refine errG_ok (by omega) ?_
  unfold okG
  rw [decide_eq_true_eq]
  intro r _
  refine allIn_yes (fun i hi => ?_)
  obtain ⟨q, h1, _, e⟩ := (tl_mem r _).1 (tZ_mem r i hi)
  omega

theorem ego_turn (h : errG G L Z = 0) (x y : Nat) : Ego G (tL L Z G) (tZ L Z G) x y ↔ Ego G L Z y x := by
  rw [← ed_ego, ← ed_ego]
  unfold Ed
  rw [has_turn]
  constructor
  · rintro ⟨_, h1, h2⟩; exact ⟨h1, h2⟩
  · rintro ⟨h1, h2⟩
    obtain ⟨i, hi, e⟩ := sc_has_iff.1 h2
    have := (errG_zero h).2 y h1 i hi
    exact ⟨by omega, h1, h2⟩

theorem rch_back {E E' : Nat → Nat → Prop} (he : ∀ x y, E' x y → E y x) {x y : Nat} (h : Rch E' x y) : Rch E y x :=
  h.stay (P := fun z => Rch E z x) (fun _ _ hz e => (Rch.edge (he _ _ e)).trans hz) (Rch.refl x)

theorem rch_turn (h : errG G L Z = 0) (x y : Nat) : Rch (Ego G (tL L Z G) (tZ L Z G)) x y ↔ Rch (Ego G L Z) y x :=
  ⟨rch_back (fun a b e => (ego_turn h a b).1 e), rch_back (fun a b e => (ego_turn h b a).2 e)⟩

end

theorem Fam.gr {w wr : World} {G : Nat} {T : Nat → List Int} {V : Nat → Value} (h : Fam w wr G T V) : Gr wr (some ⟨w.heap.size, 0, none⟩) G (fun j => (T j).length) (fun j i => (T j).getD i 0) := by
  refine ⟨w.heap.size, 0, fun _ => rfl, fun r hr => ?_⟩
  obtain ⟨a, c, hv, hrow⟩ := owns_row (h.own r hr)
  exact ⟨a, c, by rw [Nat.zero_add, h.top.cell hr, hv], hrow⟩

theorem Fam.gr' {w wr : World} {G : Nat} {L : Nat → Nat} {Z : Nat → Nat → Int} {V : Nat → Value} (h : Fam w wr G (tl L Z G) V) : Gr wr (some ⟨w.heap.size, 0, none⟩) G (tL L Z G) (tZ L Z G) := h.gr


/-- One comes to x in the graph turned round just if x comes to one. -/
theorem comes_turn {G : Nat} {L : Nat → Nat} {Z : Nat → Nat → Int} {n : Nat} {Y : Nat → Int} (h : errG G L Z = 0) (x : Nat) : Comes G (tL L Z G) (tZ L Z G) n Y x ↔ ∃ s, Src n Y s ∧ Rch (Ego G L Z) x s := by
  have key : ∀ k x, Wk (Src n Y) (Ed G (tL L Z G) (tZ L Z G)) k x → ∃ s, Src n Y s ∧ Rch (Ego G (tL L Z G) (tZ L Z G)) s x := by
    intro k
    induction k with
    | zero => intro x hx; exact ⟨x, hx, Rch.refl x⟩
    | succ k ih =>
      rintro x ⟨y, hy, e⟩
      obtain ⟨s, h1, h2⟩ := ih y hy
      rw [ed_ego] at e
      exact ⟨s, h1, h2.on e⟩
  have back : ∀ k x s, Src n Y s → Wk (fun z => z = s) (Ego G (tL L Z G) (tZ L Z G)) k x → Wk (Src n Y) (Ed G (tL L Z G) (tZ L Z G)) k x := by
    intro k
    induction k with
    | zero => intro x s hs hx; have : x = s := hx; subst this; exact hs
    | succ k ih =>
      rintro x s hs ⟨y, hy, e⟩
      exact ⟨y, ih y s hs hy, by rw [ed_ego]; exact e⟩
  constructor
  · rintro ⟨k, hk⟩
    obtain ⟨s, h1, h2⟩ := key k x hk
    exact ⟨s, h1, (rch_turn h s x).1 h2⟩
  · rintro ⟨s, h1, h2⟩
    obtain ⟨k, hk⟩ := (rch_turn h s x).2 h2
    exact ⟨k, back k x s h1 hk⟩

end Go.Proofs.Ytgahdclbaifcbaa
