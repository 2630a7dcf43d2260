/- EMERSON, LEI's set, round by round, apart from memory. Ways, walked. -/
import Derived.Test.YtgahdclbaifcbaaRefA
import Derived.Deep.Cut
import Derived.Deep.CutRange
import Derived.Laws.AppendOwnNone
import Derived.Test.YtgahdclbaifcbaaApp
namespace Go.Proofs.Ytgahdclbaifcbaa
open Go.RowKit

/-- How many of the first n are false. -/
def cnF (F : Nat → Bool) : Nat → Nat
  | 0 => 0
  | n + 1 => cnF F n + if F n = true then 0 else 1
theorem cnF_le (F : Nat → Bool) : ∀ n, cnF F n ≤ n
  | 0 => Nat.le_refl _
  | n + 1 => by
    have := cnF_le F n
    simp only [cnF]
    split <;> omega
theorem cnF_congr {F G : Nat → Bool} : ∀ {n : Nat}, (∀ i, i < n → F i = G i) → cnF F n = cnF G n
  | 0, _ => rfl
  | n + 1, h => by
    simp only [cnF]
    rw [cnF_congr (fun i hi => h i (by omega)), h n (by omega)]
theorem cnF_mono {F G : Nat → Bool} : ∀ {n : Nat}, (∀ i, i < n → F i = true → G i = true) → cnF G n ≤ cnF F n
  | 0, _ => Nat.le_refl _
  | n + 1, h => by
    simp only [cnF]
    have h1 := cnF_mono (n := n) (fun i hi => h i (by omega))
    by_cases e : F n = true
    · rw [if_pos e, if_pos (h n (by omega) e)]; omega
    · rw [if_neg e]; split <;> omega
theorem cnF_lt {F G : Nat → Bool} : ∀ {n : Nat} (x : Nat), x < n → (∀ i, i < n → F i = true → G i = true) → F x = false → G x = true → cnF G n < cnF F n
  | 0, x, hx, _, _, _ => absurd hx (Nat.not_lt_zero x)
  | n + 1, x, hx, h, h1, h2 => by
    simp only [cnF]
    by_cases e : x = n
    · subst e
      have h3 := cnF_mono (n := x) (fun i hi => h i (by omega))
      rw [if_pos h2, if_neg (by rw [h1]; exact Bool.false_ne_true)]
      omega
    · have h3 := cnF_lt (n := n) x (by omega) (fun i hi => h i (by omega)) h1 h2
      by_cases e2 : F n = true
      · rw [if_pos e2, if_pos (h n (by omega) e2)]; omega
      · rw [if_neg e2]; split <;> omega

/-- A bool as a number. -/
def b2n (b : Bool) : Nat := if b = true then 1 else 0
def boolV (v : Value) : Bool := match v with | .bool b => b | _ => false
/-- What a cell holds. -/
def celF (w : World) (b i : Nat) : Bool := match w.cell? ⟨b, i, none⟩ with | some v => boolV v | none => false
theorem celF_row {w : World} {b n : Nat} {F : Nat → Bool} (h : w.rowIs b 4 n (fun i => .bool (F i))) : cnF (celF w b) n = cnF F n :=
  cnF_congr fun i hi => by unfold celF; rw [h.cell hi]; rfl

/-- Those of the first n that z marks. -/
def Zs (n : Nat) (z : Nat → Bool) (i : Nat) : Prop := i < n ∧ z i = true
/-- All that h marks comes to F within z. -/
def Snd (E : Nat → Nat → Prop) (F : Nat → Prop) (n : Nat) (z h : Nat → Bool) : Prop := ∀ i, i < n → h i = true → ∃ m j, PthZ E (Zs n z) (m + 1) i j ∧ F j
/-- i need not be marked any more. -/
def Cmp (E : Nat → Nat → Prop) (F : Nat → Prop) (n : Nat) (z h : Nat → Bool) (i : Nat) : Prop := i < n → z i = true → ∀ t, E i t → t < n → z t = true → (F t ∨ h t = true) → h i = true

def updB (h : Nat → Bool) (i : Nat) (x : Nat) : Bool := if x = i then true else h x
theorem updB_same (h : Nat → Bool) (i : Nat) : updB h i i = true := if_pos rfl
theorem updB_mono (h : Nat → Bool) (i x : Nat) (e : h x = true) : updB h i x = true := by
  unfold updB
  split
  · rfl
  · exact e

theorem snd_updB {E : Nat → Nat → Prop} {F : Nat → Prop} {n : Nat} {z h : Nat → Bool} (hs : Snd E F n z h) {i t : Nat} (hi : i < n) (hz : z i = true) (he : E i t) (ht : t < n) (hzt : z t = true) (hf : F t ∨ h t = true) : Snd E F n z (updB h i) := by
  intro x hx hh
  by_cases e : x = i
  · subst e
    rcases hf with hf | hf
    · exact ⟨0, t, ⟨⟨hx, hz⟩, t, he, rfl, ht, hzt⟩, hf⟩
    · obtain ⟨m, j, h1, h2⟩ := hs t ht hf
      exact ⟨m + 1, j, ⟨⟨hx, hz⟩, t, he, h1⟩, h2⟩
  · rw [updB, if_neg e] at hh
    exact hs x hx hh

theorem cmp_all {E : Nat → Nat → Prop} {F : Nat → Prop} {n : Nat} {z h : Nat → Bool} (hc : ∀ i, Cmp E F n z h i) : ∀ (m i j : Nat), PthZ E (Zs n z) (m + 1) i j → F j → h i = true
  | 0, i, j, ⟨h1, l, h2, h3, h4⟩, hj => by
    subst h3
    exact hc i h1.1 h1.2 l h2 h4.1 h4.2 (Or.inl hj)
  | m + 1, i, j, ⟨h1, l, h2, h3⟩, hj => by
    have h4 := h3.first
    exact hc i h1.1 h1.2 l h2 h4.1 h4.2 (Or.inr (cmp_all hc m l j h3 hj))

/-- Those marked by both. -/
def zaf (k : Nat) (z h : Nat → Bool) (x : Nat) : Bool := if x < k then z x && h x else z x

/-- What is known ahead of set k: all with a fair way are marked; while nothing was struck off, each set ahead is met within z. -/
structure Kin (E : Nat → Nat → Prop) (K : Nat) (F : Nat → Nat → Prop) (n : Nat) (z : Nat → Bool) (c0 k : Nat) (mo : Bool) : Prop where
  all : ∀ i, FairAt E K F i → Zs n z i
  cl : mo = false → ∀ k', k' < k → ∀ i, Zs n z i → ∃ m j, PthZ E (Zs n z) (m + 1) i j ∧ F k' j
  cnt : c0 + b2n mo ≤ cnF z n

/-- .. while those that were not met are struck off. -/
structure Zin (n : Nat) (z h : Nat → Bool) (c0 k : Nat) (mo0 mo : Bool) : Prop where
  same : mo = false → mo0 = false ∧ ∀ x, x < k → z x = true → h x = true
  cnt : c0 + b2n mo ≤ cnF (zaf k z h) n

theorem zaf_zero (z h : Nat → Bool) (x : Nat) : zaf 0 z h x = z x := if_neg (Nat.not_lt_zero x)
theorem zaf_succ {k : Nat} {z h : Nat → Bool} (x : Nat) : zaf (k + 1) z h x = if x = k then z k && h k else zaf k z h x := by
  unfold zaf
  by_cases e : x = k
  · subst e; rw [if_pos (by omega), if_pos rfl]
  · rw [if_neg e]
    by_cases e2 : x < k
    · rw [if_pos (by omega), if_pos e2]
    · rw [if_neg (by omega), if_neg e2]

theorem zin_start {E : Nat → Nat → Prop} {K : Nat} {F : Nat → Nat → Prop} {n : Nat} {z h : Nat → Bool} {c0 k : Nat} {mo : Bool} (hk : Kin E K F n z c0 k mo) : Zin n z h c0 0 mo mo :=
  ⟨fun e => ⟨e, fun x hx => absurd hx (Nat.not_lt_zero x)⟩, by rw [cnF_congr (G := z) (fun i _ => zaf_zero z h i)]; exact hk.cnt⟩

theorem zin_next {n : Nat} {z h : Nat → Bool} {c0 k : Nat} {mo0 mo : Bool} (hi : Zin n z h c0 k mo0 mo) (hk : k < n) : Zin n z h c0 (k + 1) mo0 (mo || (z k != (z k && h k))) := by
  by_cases e : z k = true ∧ h k = false
  · have e2 : (mo || (z k != (z k && h k))) = true := by rw [e.1, e.2]; cases mo <;> rfl
    refine ⟨fun e3 => (by rw [e2] at e3; cases e3), ?_⟩
    rw [e2]
    have h1 := hi.cnt
    have h2 : cnF (zaf k z h) n < cnF (zaf (k + 1) z h) n := by
      refine cnF_lt k hk (fun i _ hh => ?_) ?_ ?_
      · rw [zaf_succ] at hh
        by_cases e3 : i = k
        · subst e3; rw [zaf, if_neg (by omega)]; exact e.1
        · rwa [if_neg e3] at hh
      · rw [zaf_succ, if_pos rfl, e.1, e.2]; rfl
      · rw [zaf, if_neg (by omega)]; exact e.1
    show c0 + 1 ≤ _
    omega
  · have e2 : (mo || (z k != (z k && h k))) = mo := by
      cases hz : z k <;> cases hh : h k <;> cases mo <;> simp_all
    rw [e2]
    refine ⟨fun e3 => ⟨(hi.same e3).1, fun x hx hz => ?_⟩, ?_⟩
    · by_cases e4 : x = k
      · subst e4
        cases hh : h x
        · exact absurd ⟨hz, hh⟩ e
        · rfl
      · exact (hi.same e3).2 x (by omega) hz
    · rw [cnF_congr (G := zaf k z h)]
      · exact hi.cnt
      · intro i _
        rw [zaf_succ]
        by_cases e4 : i = k
        · subst e4
          rw [if_pos rfl, zaf, if_neg (by omega)]
          cases hz : z i <;> cases hh : h i <;> simp_all
        · rw [if_neg e4]

theorem kin_next {E : Nat → Nat → Prop} {K : Nat} {F : Nat → Nat → Prop} {n : Nat} {z h : Nat → Bool} {c0 k : Nat} {mo0 mo : Bool} (hi : Kin E K F n z c0 k mo0) (hkK : k < K) (hs : Snd E (F k) n z h) (hc : ∀ i, Cmp E (F k) n z h i)
    (hz : Zin n z h c0 n mo0 mo) : Kin E K F n (zaf n z h) c0 (k + 1) mo := by
  refine ⟨fun i hf => ?_, fun e k' hk' i hzi => ?_, hz.cnt⟩
  · have h1 := hi.all i hf
    obtain ⟨m, j, h2, h3⟩ := fair_closed E K F i hf k hkK
    have h4 := cmp_all hc m i j (h2.mono hi.all) h3
    refine ⟨h1.1, ?_⟩
    rw [zaf, if_pos h1.1, h1.2, h4]; rfl
  · obtain ⟨e0, h1⟩ := hz.same e
    have heq : ∀ x, Zs n (zaf n z h) x ↔ Zs n z x := by
      intro x
      constructor
      · rintro ⟨h2, h3⟩
        rw [zaf, if_pos h2, Bool.and_eq_true] at h3
        exact ⟨h2, h3.1⟩
      · rintro ⟨h2, h3⟩
        refine ⟨h2, ?_⟩
        rw [zaf, if_pos h2, h3, h1 x h2 h3]; rfl
    have hzi' := (heq i).1 hzi
    by_cases e1 : k' = k
    · subst e1
      obtain ⟨m, j, h2, h3⟩ := hs i hzi'.1 (h1 i hzi'.1 hzi'.2)
      exact ⟨m, j, h2.mono (fun x hx => (heq x).2 hx), h3⟩
    · obtain ⟨m, j, h2, h3⟩ := hi.cl e0 k' (by omega) i hzi'
      exact ⟨m, j, h2.mono (fun x hx => (heq x).2 hx), h3⟩

theorem kin_done {E : Nat → Nat → Prop} {K : Nat} {F : Nat → Nat → Prop} {n : Nat} {z : Nat → Bool} {c0 : Nat} (hi : Kin E K F n z c0 K false) (hK : 0 < K) (i : Nat) (hin : i < n) : z i = true ↔ FairAt E K F i := by
  have h1 := closed_fair hK (Z := Zs n z) (fun i hi' k hk => hi.cl rfl k hk i hi') hi.all i
  rw [← h1]
  exact ⟨fun e => ⟨hin, e⟩, fun e => e.2⟩

/-- The goings of a graph of lists. -/
def Ew (n : Nat) (L : Nat → Nat) (Z : Nat → Nat → Int) (i t : Nat) : Prop := i < n ∧ has (L i) (Z i) t = true

theorem kin_start {n K : Nat} {L : Nat → Nat} {Z : Nat → Nat → Int} {F : Nat → Nat → Prop} {z : Nat → Bool} (hz : ∀ i, i < n → z i = true) : ∀ i, FairAt (Ew n L Z) K F i → Zs n z i := by
  rintro i ⟨p, rfl, hp, _⟩
  have := (hp 0).1
  exact ⟨this, hz _ this⟩

theorem fair_none' {n : Nat} {L : Nat → Nat} {Z : Nat → Nat → Int} {F G : Nat → Nat → Prop} (hG : ∀ i, i < n → G 0 i) (i : Nat) : FairAt (Ew n L Z) 0 F i ↔ FairAt (Ew n L Z) 1 G i := by
  constructor
  · rintro ⟨p, h1, h2, _⟩
    refine ⟨p, h1, h2, fun k hk j => ⟨j, Nat.le_refl _, ?_⟩⟩
    obtain rfl : k = 0 := by omega
    exact hG _ (h2 j).1
  · rintro ⟨p, h1, h2, _⟩
    exact ⟨p, h1, h2, fun k hk => absurd hk (Nat.not_lt_zero k)⟩

/-- Lists of bools. -/
def Sets (w : World) (sa : Option Addr) (K n : Nat) (sf : Nat → Nat → Bool) : Prop :=
  ∃ b o, (0 < K → sa = some ⟨b, o, none⟩) ∧ ∀ k, k < K → ∃ a c, w.cell? ⟨b, o + k, none⟩ = some (.slice a n c) ∧ RowB w a n (sf k)
theorem Sets.below {w w' : World} {sa : Option Addr} {K n : Nat} {sf : Nat → Nat → Bool} (h : Sets w sa K n sf) (hb : Below w.heap.size w w') : Sets w' sa K n sf := by
  obtain ⟨b, o, h1, h2⟩ := h
  refine ⟨b, o, h1, fun k hk => ?_⟩
  obtain ⟨a, c, h3, h4⟩ := h2 k hk
  exact ⟨a, c, below_cell hb (Nat.le_refl _) h3, h4.below hb⟩

/-- What Ways answers. -/
def WyIs (w : World) (n : Nat) (L : Nat → Nat) (Z : Nat → Nat → Int) (K : Nat) (sf : Nat → Nat → Bool) (e : Ending) (w' : World) : Prop :=
  ∃ z : Nat → Bool, e = .returned (.slice (some ⟨w.heap.size, 0, none⟩) n n) ∧ w'.rowIs w.heap.size 4 n (fun i => .bool (z i)) ∧ (∀ i, i < n → (z i = true ↔ FairAt (Ew n L Z) K (fun k i => sf k i = true) i)) ∧ Below w.heap.size w w'

end Go.Proofs.Ytgahdclbaifcbaa

namespace Go.Proofs.Ytgahdclbaifcbaa
open Go.RowKit

theorem But.drewN {b : Nat} {u w : World} (h : But b u w) (n : Nat) : But b u (w.drewN n) := ⟨h.os, h.tape, h.output, h.size, h.block⟩
theorem rowIs_but {b c : Nat} {u w : World} {t : TypeId} {n : Nat} {f : Nat → Value} (h : u.rowIs b t n f) (k : But c u w) (hc : b ≠ c) : w.rowIs b t n f := h.of_block (k.block b h.lt hc)

/-- n bools that are true, as cells. -/
def trs (n : Nat) : List Value := List.replicate n (.bool true)
theorem trs_one (n : Nat) : ∀ u ∈ trs n, u.oneCell' = true := by
  intro u hu
  rw [List.eq_of_mem_replicate hu]; rfl
theorem rowB_of_owns {w : World} {base n : Nat} {v : Value} (h : w.ownsRow base 4 1 v n (trs n)) : ∃ a c, v = .slice a n c ∧ (∀ b, a = some b → base ≤ b.block) ∧ (a = none → n = 0) ∧ RowB w a n (fun _ => true) := by
  rcases h.2 with ⟨rfl, h0⟩ | ⟨g, cap, cur, rfl, hg, _, hcap, _⟩
  · subst h0
    exact ⟨none, 0, rfl, fun b hb => (by cases hb), fun _ => rfl, ⟨0, 0, fun hh => by omega, fun i hi => by omega⟩⟩
  · refine ⟨some ⟨g, 0, none⟩, cap, rfl, fun b hb => (by cases hb; exact hg), fun hh => (by cases hh), ⟨g, 0, fun _ => rfl, fun i hi => ?_⟩⟩
    have := h.cells (g := g) rfl i (.bool true) (by rw [trs, List.getElem?_replicate, if_pos hi])
    rwa [addr_none] at this

/-- The sets of Ways. -/
def Sts (wc : World) (zb : Nat) (sa : Option Addr) (K n : Nat) (sf : Nat → Nat → Bool) : Prop := ∀ u, But zb wc u → Sets u sa K n sf

theorem sts_old {w wc : World} {sa : Option Addr} {K n : Nat} {sf : Nat → Nat → Bool} (h : Sets w sa K n sf) (hb : Below w.heap.size w wc) : Sts wc w.heap.size sa K n sf :=
  fun _ hu => h.below (hb.trans ((hu.below (Nat.le_refl _) hb.size).mono (Nat.le_refl _)))

theorem sts_new {w w1 : World} {n : Nat} {v : Value} (hown : w1.ownsRow (w.heap.size + 1) 4 1 v n (trs n)) (hs : w.heap.size + 1 ≤ w1.heap.size) :
    Sts (w1.alloc (.cells #[v] 29)) w.heap.size (some ⟨w1.heap.size, 0, none⟩) 1 n (fun _ _ => true) := by
  obtain ⟨a, c, rfl, h1, h2, b, o, h3, h4⟩ := rowB_of_owns hown
  intro u hu
  refine ⟨w1.heap.size, 0, fun _ => rfl, fun k hk => ⟨a, c, ?_, b, o, h3, fun i hi => ?_⟩⟩
  · obtain rfl : k = 0 := by omega
    exact hu.cell (p := ⟨w1.heap.size, 0, none⟩) (by show w1.heap.size ≠ _; omega) (cell_of_alloc rfl)
  · have h5 := h4 i hi
    have h6 := h1 _ (h3 (by omega))
    exact hu.cell (p := ⟨b, o + i, none⟩) (by show b ≠ _; have : w.heap.size + 1 ≤ b := h6; omega) (cell_alloc1 _ h5)

set_option maxRecDepth 100000 in
set_option maxHeartbeats 8000000 in
theorem ways_any (ga : Option Addr) (n gc : Nat) (L : Nat → Nat) (Z : Nat → Nat → Int) (sa : Option Addr) (K sc : Nat) (sf : Nat → Nat → Bool) (w : World) (hn : n ≤ 3000) (hK : K ≤ 80) (h : Gr w ga n L Z) (hL : ∀ r, r < n → L r ≤ 140737488355328)
    (hin : ∀ r, r < n → allIn (L r) (Z r) n = true) (hs : Sets w sa K n sf) : Calls Try.prog 34 #[.slice ga n gc, .slice sa K sc] w fun e w' => WyIs w n L Z K sf e w' := by
  have hmk := run_make_row' (P := Try.prog) 29 4 (.bool false) 1 Try.underlying29 Try.info4 rfl .i64 .i64 n (by omega) (by omega)
  obtain ⟨gb, go, hga, hgc⟩ := h
  have HG := hid hgc
  have HIN := hid (fun r hr => allIn_all (hin r hr))
  have HL := hid hL
  have HS := hid hs
  obtain ⟨i0, hi, hz0, hz1, hz2⟩ := info_parts Try.info4
  have HI : Hid (Try.prog.info? 4 = some i0 ∧ i0.zero = some (.bool false) ∧ i0.size = 1 ∧ i0.bytes = 1) := ⟨hi, hz0, hz1, hz2⟩
  clear hi hz0 hz1 hz2 hgc hin hL hs
  go_enter Try.func34, Try.ntmps34
  go_wp2
  go_loopw [6] (fun i wr => ∃ k : Nat, k ≤ n ∧ i = .int .i64 k ∧ Hid (Below w.heap.size w wr ∧ w.heap.size + 1 ≤ wr.heap.size ∧ wr.rowIs w.heap.size 4 n (fun x => .bool (decide (x < k))))) (fun i _ => n - (intOf i).toNat)
  case atStart => exact ⟨0, Nat.zero_le _, rfl, hid ⟨box_below _ _, by simp, (World.rowIs_made w (.bool false) n 4).congr (fun i _ => by simp)⟩⟩
  case round =>
    obtain ⟨k, hk, rfl, H⟩ := hrel
    by_cases hlt : k < n
    · have hc := H.out.2.2.cell hlt
      have hz := H.out.2.2.frozen k
      go_wp2
      go_roundw
      case rel =>
        refine ⟨k + 1, by omega, by go_num, hid ⟨H.out.1.setCell (by simp) _, by simpa using H.out.2.1, (H.out.2.2.set k _).congr (fun i hi => ?_)⟩⟩
        by_cases e : i = k
        · subst e; simp
        · rw [if_neg e]
          congr 1
          simp only [decide_eq_decide]
          omega
      case measure => simp [intOf]; omega
    · have HR := hid (H.out.2.2.congr (g := fun _ => .bool true) (fun i hi => by simp; omega))
      go_upto_if 29 with fail
      go_cut [1] from 27 to 32 (fun v wc => ∃ (sa' : Option Addr) (K' sc' : Nat) (sf' : Nat → Nat → Bool), v = .slice sa' K' sc' ∧ 0 < K' ∧ K' ≤ 80 ∧ Hid (Below w.heap.size w wc ∧ w.heap.size + 1 ≤ wc.heap.size ∧ wc.rowIs w.heap.size 4 n (fun _ => .bool true) ∧ Sts wc w.heap.size sa' K' n sf' ∧ ∀ i, FairAt (Ew n L Z) K' (fun k i => sf' k i = true) i ↔ FairAt (Ew n L Z) K (fun k i => sf k i = true) i))
      case first =>
        by_cases hK0 : K = 0
        · subst hK0
          have HO : Hid (wr.ownsRow (w.heap.size + 1) 4 1 (.slice none 0 0) 0 []) := World.ownsRow_nil _ _ _ _
          have HN : Hid (∀ j u, (trs n)[j]? = some u → wr.cell? ((⟨w.heap.size, 0, none⟩ : Addr).add j) = some u) := fun j u hu => by
            have hj : j < n := by
              have := (List.getElem?_eq_some_iff.1 hu).1
              rwa [trs, List.length_replicate] at this
            rw [trs, List.getElem?_replicate, if_pos hj] at hu
            cases hu
            rw [addr_none, Nat.zero_add]
            exact HR.out.cell hj
          clear hmk
          go_wp2_with (at_builtin; refine wpList_append_own _ rfl _ _ 29 rfl (w.heap.size + 1) 4 i0 (.bool false) 1 1 Try.underlying29 HI.out.1 HI.out.2.1 HI.out.2.2.1 HI.out.2.2.2 rfl (by decide) _ _ _ rfl HO.out ⟨w.heap.size, 0, none⟩ n n (trs n) rfl (by rw [trs, List.length_replicate, Nat.mul_one]) HN.out (trs_one _) (by unfold maxLen; omega) (by omega) H.out.2.1 ?_; intro v' w1 hown' hgrow _; rw [Nat.zero_add, List.nil_append] at hown'; obtain ⟨a1, c1, rfl, _, _, _⟩ := rowB_of_owns hown'; have HX := hid (And.intro hown' hgrow); clear hown' hgrow)
          go_meet
          have hb1 : Below (w.heap.size + 1) wr w1 := (Below.refl _ _).grown HX.out.2 H.out.2.1 (fun k hk => by cases hk)
          have hb2 : Below w.heap.size w w1 := H.out.1.trans (hb1.mono (Nat.le_succ _))
          have hs1 : w.heap.size + 1 ≤ w1.heap.size := Nat.le_trans H.out.2.1 hb1.size
          refine ⟨some ⟨w1.heap.size, 0, none⟩, 1, 1, fun _ _ => true, rfl, by omega, by omega, hid ⟨hb2.alloc hb2.size _, by simp; omega, (HR.out.of_block (hb1.block _ (Nat.lt_succ_self _))).alloc _, sts_new HX.out.1 hs1, fun i => (fair_none' (fun _ _ => rfl) i).symm⟩⟩
        · have hK1 : ((K : Int) == 0) = false := beq_eq_false_iff_ne.2 (by omega)
          go_wp2
          go_meet
          exact ⟨sa, K, sc, sf, rfl, by omega, by omega, hid ⟨H.out.1, H.out.2.1, HR.out, sts_old HS.out H.out.1, fun _ => Iff.rfl⟩⟩
      case rest =>
        obtain ⟨sa', K', sc', sf', rfl, hK1, hK2, HC⟩ := hcut
        clear HR H HS HI
        obtain ⟨F, hF⟩ : ∃ F : Nat → Nat → Prop, F = fun k i => sf' k i = true := ⟨_, rfl⟩
        have HF := hid hF
        obtain ⟨E, hE⟩ : ∃ E : Nat → Nat → Prop, E = Ew n L Z := ⟨_, rfl⟩
        have HE := hid hE
        rw [← hF, ← hE] at HC
        clear hF hE
        go_wp2
        go_loopw [7] (fun mv wr => ∃ (mo : Bool) (z : Nat → Bool), mv = .bool mo ∧ Hid (But w.heap.size wc wr ∧ wr.rowIs w.heap.size 4 n (fun x => .bool (z x)) ∧ (∀ i, FairAt E K' F i → Zs n z i) ∧ (mo = false → ∃ c0, Kin E K' F n z c0 K' false))) (fun mv wr => (n - cnF (celF wr w.heap.size) n) + b2n (boolV mv))
        case atStart => exact ⟨true, fun _ => true, rfl, hid ⟨But.refl _ _, HC.out.2.2.1, by rw [HE.out]; exact kin_start (fun _ _ => rfl), fun h => by cases h⟩⟩
        case round =>
          obtain ⟨mo, z, rfl, H⟩ := hrel
          cases mo
          · go_wp2
            go_ret
            obtain ⟨c0, hk⟩ := H.out.2.2.2 (by trivial)
            refine ⟨z, rfl, H.out.2.1, fun i hi => ?_, HC.out.1.trans (H.out.1.below (Nat.le_refl _) HC.out.1.size)⟩
            rw [kin_done hk hK1 i hi]
            have := HC.out.2.2.2.2 i
            rw [HE.out] at this ⊢
            exact this
          · obtain ⟨wz, rfl⟩ : ∃ wz, wz = wr := ⟨_, rfl⟩
            have HM := hid (celF_row H.out.2.1)
            obtain ⟨c0, hc0⟩ : ∃ c0, c0 = cnF z n := ⟨_, rfl⟩
            have HC0 := hid hc0
            clear hc0
            go_wp2
            go_loopw [7, 8] (fun mv kv wk => ∃ (mo : Bool) (z : Nat → Bool) (k : Nat), mv = .bool mo ∧ kv = .int .i64 k ∧ k ≤ K' ∧ Hid (But w.heap.size wc wk ∧ wk.rowIs w.heap.size 4 n (fun x => .bool (z x)) ∧ Kin E K' F n z c0 k mo)) (fun _ kv _ => K' - (intOf kv).toNat)
            case atStart => exact ⟨false, z, 0, rfl, rfl, Nat.zero_le _, hid ⟨H.out.1, H.out.2.1, H.out.2.2.1, fun _ k' hk' => absurd hk' (Nat.not_lt_zero _), by rw [HC0.out]; exact Nat.le_refl _⟩⟩
            case round =>
              obtain ⟨mo, z1, k, rfl, rfl, hk, H1⟩ := hrel
              by_cases hltK : k < K'
              · obtain ⟨wk, rfl⟩ : ∃ wk, wk = wr := ⟨_, rfl⟩
                have hbk : Below w.heap.size w wk := HC.out.1.trans (H1.out.1.below (Nat.le_refl _) HC.out.1.size)
                have HSk := hid (HC.out.2.2.2.1 wk H1.out.1)
                have HGk := hid ((show Gr w ga n L Z from ⟨gb, go, hga, HG.out⟩).below hbk)
                have hzb : w.heap.size < wk.heap.size := H1.out.2.1.lt
                have HBK := hid hbk
                have HS0 : Hid (Below wk.heap.size wk (wk.alloc (.cells (madeCells #[.bool false] n) 4)) ∧ (wk.alloc (.cells (madeCells #[.bool false] n) 4)).rowIs wk.heap.size 4 n (fun _ => .bool false)) := hid ⟨box_below _ _, World.rowIs_made wk (.bool false) n 4⟩
                clear hbk HM
                go_wp2
                go_loopw [10] (fun gv wi => ∃ (gr : Bool) (h : Nat → Bool), gv = .bool gr ∧ Hid (Below wk.heap.size wk wi ∧ wi.rowIs wk.heap.size 4 n (fun x => .bool (h x)) ∧ Snd E (F k) n z1 h ∧ (gr = false → ∀ i, Cmp E (F k) n z1 h i))) (fun gv wi => cnF (celF wi wk.heap.size) n + b2n (boolV gv))
                case atStart => exact ⟨true, fun _ => false, rfl, hid ⟨HS0.out.1, HS0.out.2, fun _ _ e => (by cases e), fun e => (by cases e)⟩⟩
                case round =>
                  obtain ⟨gr, h, rfl, H2⟩ := hrel
                  cases gr
                  · --ZLOOP
                    obtain ⟨wg, rfl⟩ : ∃ wg, wg = wr := ⟨_, rfl⟩
                    have HCm : Hid (∀ i, Cmp E (F k) n z1 h i) := hid (H2.out.2.2.2 (by trivial))
                    have HB2 := hid H2.out.1
                    have HR2 := hid H2.out.2.1
                    have HSn := hid H2.out.2.2.1
                    have HZ2 := hid (H1.out.2.1.of_block (H2.out.1.block _ hzb))
                    clear H2 HS0
                    go_wp2
                    go_loopw [7, 14] (fun mv iv wi => ∃ (mo' : Bool) (i : Nat), mv = .bool mo' ∧ iv = .int .i64 i ∧ i ≤ n ∧ Hid (But w.heap.size wg wi ∧ wi.rowIs w.heap.size 4 n (fun x => .bool (zaf i z1 h x)) ∧ Zin n z1 h c0 i mo mo')) (fun _ iv _ => n - (intOf iv).toNat)
                    case atStart => exact ⟨mo, 0, rfl, rfl, Nat.zero_le _, hid ⟨But.refl _ _, HZ2.out.congr (fun i _ => by rw [zaf_zero]), zin_start H1.out.2.2⟩⟩
                    case round =>
                      obtain ⟨mo', i, rfl, rfl, hi, H3⟩ := hrel
                      by_cases hlti : i < n
                      · have hc1 : wr.cell? ⟨w.heap.size, i, none⟩ = some (.bool (z1 i)) := by
                          have := H3.out.2.1.cell hlti
                          rwa [show zaf i z1 h i = z1 i from if_neg (Nat.lt_irrefl i)] at this
                        have hc2 : wr.cell? ⟨wk.heap.size, i, none⟩ = some (.bool (h i)) := (rowIs_but HR2.out H3.out.1 (by omega)).cell hlti
                        have hz1 := H3.out.2.1.frozen i
                        have HZn := hid (zin_next H3.out.2.2 hlti)
                        have HRw := hid (fun (v : Value) => H3.out.2.1.set i v)
                        --ZROUND
                        obtain ⟨zi, hzi⟩ : ∃ zi, zi = z1 i := ⟨_, rfl⟩
                        obtain ⟨hv, hhv⟩ : ∃ hv, hv = h i := ⟨_, rfl⟩
                        rw [← hzi] at hc1 HZn
                        rw [← hhv] at hc2 HZn
                        have HV := hid (And.intro hzi hhv)
                        clear hzi hhv HRw
                        cases zi <;> cases hv <;> cases mo'
                        all_goals
                          go_wp2
                          go_quiet (fail)
                          go_wp2
                          go_roundw
                        all_goals first
                          | (simp [intOf]; omega)
                          | (refine ⟨_, i + 1, rfl, by go_num, by omega, hid ⟨(H3.out.1.drewN _).setCell _ _, ((H3.out.2.1.of_block (w' := wr.drewN _) rfl).set i _).congr (fun x hx => ?_), HZn.out⟩⟩
                             have e1 := HV.out.1
                             have e2 := HV.out.2
                             rw [zaf_succ, ← e1, ← e2]
                             by_cases e : x = i
                             · rw [if_pos e, if_pos e]; rfl
                             · rw [if_neg e, if_neg e])
                      · obtain rfl : i = n := by omega
                        go_wp2
                        go_roundw
                        case rel =>
                          refine ⟨mo', zaf i z1 h, k + 1, rfl, by go_num, by omega, hid ⟨?_, H3.out.2.1, kin_next H1.out.2.2 hltK HSn.out HCm.out H3.out.2.2⟩⟩
                          exact (H1.out.1.trans (But.of_below HB2.out)).trans H3.out.1
                        case measure => simp [intOf]; omega
                  · --GROW
                    obtain ⟨wh, rfl⟩ : ∃ wh, wh = wr := ⟨_, rfl⟩
                    obtain ⟨c1, hc1⟩ : ∃ c1, c1 = cnF h n := ⟨_, rfl⟩
                    have HC1 := hid hc1
                    have HM2 := hid (celF_row H2.out.2.1)
                    clear hc1
                    go_wp2
                    go_loopw [10, 11] (fun gv iv wi => ∃ (gr : Bool) (h : Nat → Bool) (i : Nat), gv = .bool gr ∧ iv = .int .i64 i ∧ i ≤ n ∧ Hid (Below wk.heap.size wk wi ∧ wi.rowIs wk.heap.size 4 n (fun x => .bool (h x)) ∧ Snd E (F k) n z1 h ∧ (gr = false → ∀ x, x < i → Cmp E (F k) n z1 h x) ∧ cnF h n + b2n gr ≤ c1)) (fun _ iv _ => n - (intOf iv).toNat)
                    case atStart => exact ⟨false, h, 0, rfl, rfl, Nat.zero_le _, hid ⟨H2.out.1, H2.out.2.1, H2.out.2.2.1, fun _ x hx => absurd hx (Nat.not_lt_zero _), by rw [HC1.out]; exact Nat.le_refl _⟩⟩
                    case round =>
                      obtain ⟨gr, h1, i, rfl, rfl, hi, H3⟩ := hrel
                      by_cases hlti : i < n
                      · obtain ⟨gb', go', hga', hgc'⟩ := HGk.out
                        obtain rfl := hga' (by omega)
                        obtain ⟨ia, ic, hgi, hri⟩ := hgc' i hlti
                        obtain ⟨rb, ro, hra, hrc⟩ := hri
                        have hLi := HL.out i hlti
                        have HINi := hid (HIN.out i hlti)
                        have HRC := hid hrc
                        have HGI := hid hgi
                        clear hgc' hrc hgi hga'
                        go_wp2
                        go_loopw [10, 12] (fun gv jv wi => ∃ (gr : Bool) (h : Nat → Bool) (j : Nat), gv = .bool gr ∧ jv = .int .i64 j ∧ j ≤ L i ∧ Hid (Below wk.heap.size wk wi ∧ wi.rowIs wk.heap.size 4 n (fun x => .bool (h x)) ∧ Snd E (F k) n z1 h ∧ (gr = false → (∀ x, x < i → Cmp E (F k) n z1 h x) ∧ ∀ j', j' < j → ∀ t : Nat, Z i j' = t → z1 i = true → z1 t = true → (F k t ∨ h t = true) → h i = true) ∧ cnF h n + b2n gr ≤ c1)) (fun _ jv _ => L i - (intOf jv).toNat)
                        case atStart => exact ⟨gr, h1, 0, rfl, rfl, Nat.zero_le _, hid ⟨H3.out.1, H3.out.2.1, H3.out.2.2.1, fun e => ⟨H3.out.2.2.2.1 e, fun j' hj' => absurd hj' (Nat.not_lt_zero _)⟩, H3.out.2.2.2.2⟩⟩
                        case round =>
                          obtain ⟨gr, h', j, rfl, rfl, hj, H4⟩ := hrel
                          have hgi : wr.cell? ⟨gb', go' + i, none⟩ = some (.slice ia (L i) ic) := below_cell H4.out.1 (Nat.le_refl _) HGI.out
                          have hzi : wr.cell? ⟨w.heap.size, i, none⟩ = some (.bool (z1 i)) := (H1.out.2.1.of_block (H4.out.1.block _ hzb)).cell hlti
                          have hhi : wr.cell? ⟨wk.heap.size, i, none⟩ = some (.bool (h' i)) := H4.out.2.1.cell hlti
                          by_cases hltj : j < L i
                          · cases hzv : z1 i
                            · have HZV := hid hzv
                              rw [hzv] at hzi
                              clear hzv
                              go_wp2
                              go_roundw
                              case rel => exact ⟨gr, h', i + 1, rfl, by go_num, by omega, hid ⟨H4.out.1, H4.out.2.1, H4.out.2.2.1, fun e x hx => by
                                by_cases e2 : x = i
                                · subst e2; exact fun _ e3 => absurd e3 (by rw [HZV.out]; exact Bool.false_ne_true)
                                · exact (H4.out.2.2.2.1 e).1 x (by omega), H4.out.2.2.2.2⟩⟩
                              case measure => simp [intOf]; omega
                            · have HZV := hid hzv
                              rw [hzv] at hzi
                              clear hzv
                              cases hhv : h' i
                              · have HHV := hid hhv
                                rw [hhv] at hhi
                                clear hhv
                                obtain rfl := hra (by omega)
                                have hzz := HINi.out j hltj
                                obtain ⟨t, ht⟩ : ∃ t : Nat, Z i j = t := ⟨(Z i j).toNat, by omega⟩
                                have htn : t < n := by omega
                                have htz : (t : Int) < n := by omega
                                have hcj : wr.cell? ⟨rb, ro + j, none⟩ = some (.int .i64 t) := by rw [← ht]; exact below_cell H4.out.1 (Nat.le_refl _) (HRC.out j hltj)
                                have HT := hid ht
                                clear ht hzz
                                have hzt : wr.cell? ⟨w.heap.size, t, none⟩ = some (.bool (z1 t)) := (H1.out.2.1.of_block (H4.out.1.block _ hzb)).cell htn
                                have hht : wr.cell? ⟨wk.heap.size, t, none⟩ = some (.bool (h' t)) := H4.out.2.1.cell htn
                                have hfz := H4.out.2.1.frozen i
                                obtain ⟨sb, so, hsa, hsc⟩ := HSk.out
                                obtain rfl := hsa hK1
                                obtain ⟨ka, kc, hsk, kb, ko, hka, hkc⟩ := hsc k hltK
                                obtain rfl := hka (by omega)
                                have hsk' : wr.cell? ⟨sb, so + k, none⟩ = some (.slice (some ⟨kb, ko, none⟩) n kc) := below_cell H4.out.1 (Nat.le_refl _) hsk
                                have hft : wr.cell? ⟨kb, ko + t, none⟩ = some (.bool (sf' k t)) := below_cell H4.out.1 (Nat.le_refl _) (hkc t htn)
                                have HFt : Hid (F k t ↔ sf' k t = true) := hid (by rw [HF.out])
                                clear hsc hsk hkc hsa hka
                                have HEt : Hid (E i t) := hid (by rw [HE.out]; exact ⟨hlti, has_yes j hltj HT.out⟩)
                                --BODY
                                obtain ⟨zt, ezt⟩ : ∃ zt, zt = z1 t := ⟨_, rfl⟩
                                obtain ⟨ft, eft⟩ : ∃ ft, ft = sf' k t := ⟨_, rfl⟩
                                obtain ⟨htv, eht⟩ : ∃ htv, htv = h' t := ⟨_, rfl⟩
                                rw [← ezt] at hzt
                                rw [← eft] at hft HFt
                                rw [← eht] at hht
                                have HV := hid (And.intro ezt eht)
                                clear ezt eft eht
                                have HNO : Hid ((¬ (zt = true ∧ (ft = true ∨ htv = true))) → gr = false → (∀ x, x < i → Cmp E (F k) n z1 h' x) ∧ ∀ j', j' < j + 1 → ∀ t : Nat, Z i j' = t → z1 i = true → z1 t = true → (F k t ∨ h' t = true) → h' i = true) := hid (by
                                  intro hno e
                                  refine ⟨(H4.out.2.2.2.1 e).1, fun j' hj' t' e1 e2 e3 e4 => ?_⟩
                                  by_cases e5 : j' = j
                                  · subst e5
                                    have e6 : t' = t := by have := HT.out; omega
                                    subst e6
                                    rw [← HV.out.1] at e3
                                    rw [← HV.out.2, HFt.out] at e4
                                    exact absurd ⟨e3, e4⟩ hno
                                  · exact (H4.out.2.2.2.1 e).2 j' (by omega) t' e1 e2 e3 e4)
                                have HYES : Hid ((zt = true ∧ (ft = true ∨ htv = true)) → Snd E (F k) n z1 (updB h' i) ∧ cnF (updB h' i) n + 1 ≤ c1) := hid (by
                                  rintro ⟨e1, e2⟩
                                  refine ⟨snd_updB H4.out.2.2.1 hlti HZV.out HEt.out htn (by rw [← HV.out.1]; exact e1) (by rw [HFt.out, ← HV.out.2]; exact e2), ?_⟩
                                  have e3 := cnF_lt (F := h') (G := updB h' i) i hlti (fun x _ e => updB_mono h' i x e) HHV.out (updB_same h' i)
                                  have e4 := H4.out.2.2.2.2
                                  omega)
                                have HRS := hid (fun (v : Value) => H4.out.2.1.set i v)
                                have HNX : Hid (Below wk.heap.size wk wr ∧ wr.rowIs wk.heap.size 4 n (fun x => .bool (h' x)) ∧ Snd E (F k) n z1 h' ∧ cnF h' n + b2n gr ≤ c1) := hid ⟨H4.out.1, H4.out.2.1, H4.out.2.2.1, H4.out.2.2.2.2⟩
                                clear HT HFt HEt HV H4
                                cases zt
                                · go_wp2
                                  go_roundw
                                  case rel => exact ⟨gr, h', j + 1, rfl, by go_num, by omega, hid ⟨HNX.out.1, HNX.out.2.1, HNX.out.2.2.1, fun e => ⟨(HNO.out (by simp) e).1, fun j' a t b _ c d => (HNO.out (by simp) e).2 j' a t b HZV.out c d⟩, HNX.out.2.2.2⟩⟩
                                  case measure => simp [intOf]; omega
                                · cases ft
                                  · cases htv
                                    · go_wp2
                                      go_roundw
                                      case rel => exact ⟨gr, h', j + 1, rfl, by go_num, by omega, hid ⟨HNX.out.1, HNX.out.2.1, HNX.out.2.2.1, fun e => ⟨(HNO.out (by simp) e).1, fun j' a t b _ c d => (HNO.out (by simp) e).2 j' a t b HZV.out c d⟩, HNX.out.2.2.2⟩⟩
                                      case measure => simp [intOf]; omega
                                    · go_wp2
                                      go_roundw
                                      case rel =>
                                        have hy := HYES.out (by simp)
                                        exact ⟨true, updB h' i, j + 1, rfl, by go_num, by omega, hid ⟨HNX.out.1.setCell (Nat.le_refl _) _, (HRS.out (.bool true)).congr (fun x _ => by unfold updB; split <;> rfl), hy.1, fun e => (by cases e), hy.2⟩⟩
                                      case measure => simp [intOf]; omega
                                  · go_wp2
                                    go_roundw
                                    case rel =>
                                      have hy := HYES.out (by simp)
                                      exact ⟨true, updB h' i, j + 1, rfl, by go_num, by omega, hid ⟨HNX.out.1.setCell (Nat.le_refl _) _, (HRS.out (.bool true)).congr (fun x _ => by unfold updB; split <;> rfl), hy.1, fun e => (by cases e), hy.2⟩⟩
                                    case measure => simp [intOf]; omega
                              · have HHV := hid hhv
                                rw [hhv] at hhi
                                clear hhv
                                go_wp2
                                go_roundw
                                case rel => exact ⟨gr, h', i + 1, rfl, by go_num, by omega, hid ⟨H4.out.1, H4.out.2.1, H4.out.2.2.1, fun e x hx => by
                                  by_cases e2 : x = i
                                  · subst e2; exact fun _ _ _ _ _ _ _ => HHV.out
                                  · exact (H4.out.2.2.2.1 e).1 x (by omega), H4.out.2.2.2.2⟩⟩
                                case measure => simp [intOf]; omega
                          · go_wp2
                            go_roundw
                            case rel => exact ⟨gr, h', i + 1, rfl, by go_num, by omega, hid ⟨H4.out.1, H4.out.2.1, H4.out.2.2.1, fun e x hx => by
                              by_cases e2 : x = i
                              · subst e2; exact fun e3 e4 t e5 e6 e7 e8 => by
                                  rw [HE.out] at e5
                                  have e9 := e5.2
                                  unfold has at e9
                                  rw [decide_eq_true_eq] at e9
                                  obtain ⟨j', h5, h6⟩ := e9
                                  exact (H4.out.2.2.2.1 e).2 j' (by omega) t h6 e4 e7 e8
                              · exact (H4.out.2.2.2.1 e).1 x (by omega), H4.out.2.2.2.2⟩⟩
                            case measure => simp [intOf]; omega
                      · obtain rfl : i = n := by omega
                        go_wp2
                        go_roundw
                        case rel =>
                          refine ⟨gr, h1, rfl, hid ⟨H3.out.1, H3.out.2.1, H3.out.2.2.1, fun e x => ?_⟩⟩
                          by_cases e2 : x < i
                          · exact H3.out.2.2.2.1 e x e2
                          · exact fun e3 => absurd e3 e2
                        case measure =>
                          have e1 := celF_row H3.out.2.1
                          have e2 := H3.out.2.2.2.2
                          have e4 := HC1.out
                          have e5 := HM2.out
                          show _ + b2n gr < _ + 1
                          rw [e1, e5]
                          omega
              · obtain rfl : k = K' := by omega
                go_wp2
                go_roundw
                case rel => exact ⟨mo, z1, rfl, hid ⟨H1.out.1, H1.out.2.1, H1.out.2.2.all, fun e => ⟨c0, by have := H1.out.2.2; rwa [e] at this⟩⟩⟩
                case measure =>
                  have e1 := celF_row H1.out.2.1
                  have e2 := H1.out.2.2.cnt
                  have e3 := cnF_le z1 n
                  have e4 := HC0.out
                  have e5 := HM.out
                  show n - _ + b2n mo < n - _ + 1
                  rw [e1, e5]
                  omega

end Go.Proofs.Ytgahdclbaifcbaa
