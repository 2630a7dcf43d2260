/- Shortest ways, as plain mathematics: how far the next target is, and which nodes the least of the shortest ways goes by. leastLeading and nearest, by their contracts. leastWay and Way, by their contracts. What comes in a graph and in the one turned round; two ways. firstStill, firstNever. -/
import Derived.Test.YthpbgfodejoecaaBfsJ
import Derived.Test.YthpbgfodejoecaaDist2J
import Derived.Test.YthpbgfodejoecaaLeafJ
import Derived.Test.YthpbgfodejoecaaProc5J
namespace Go.Proofs.Ythpbgfodejoecaa

/-- The least number of a list of which p holds; -1 if there is none. -/
def best (p : Nat → Bool) (Y : Nat → Int) : Nat → Int
  | 0 => -1
  | k + 1 => if p (Y k).toNat = true ∧ (best p Y k = -1 ∨ Y k < best p Y k) then Y k else best p Y k

theorem best_congr {p q : Nat → Bool} {Y : Nat → Int} : ∀ n, (∀ i, i < n → p (Y i).toNat = q (Y i).toNat) → best p Y n = best q Y n
  | 0, _ => rfl
  | n + 1, h => by
    simp only [best]
    rw [best_congr n (fun i hi => h i (by omega)), h n (by omega)]

theorem best_none {p : Nat → Bool} {Y : Nat → Int} : ∀ n, (∀ i, i < n → 0 ≤ Y i) → best p Y n = -1 → ∀ i, i < n → p (Y i).toNat = false
  | 0, _, _, i, hi => by omega
  | n + 1, h0, h, i, hi => by
    simp only [best] at h
    have hn := h0 n (by omega)
    split at h
    · omega
    · rename_i hc
      by_cases e : i = n
      · subst e
        cases hp : p (Y i).toNat
        · rfl
        · exact absurd ⟨hp, Or.inl h⟩ hc
      · exact best_none n (fun i hi => h0 i (by omega)) h i (by omega)

theorem best_some {p : Nat → Bool} {Y : Nat → Int} : ∀ n, best p Y n ≠ -1 → ∃ i, i < n ∧ best p Y n = Y i ∧ p (Y i).toNat = true
  | 0, h => absurd rfl h
  | n + 1, h => by
    simp only [best] at h ⊢
    split at h
    · rename_i hc
      rw [if_pos hc]
      exact ⟨n, by omega, rfl, hc.1⟩
    · rename_i hc
      rw [if_neg hc]
      obtain ⟨i, hi, e, hp⟩ := best_some n h
      exact ⟨i, by omega, e, hp⟩

/-- There is a way of k goings from x to a target. -/
def Bk (T : Nat → Bool) (E : Nat → Nat → Prop) : Nat → Nat → Prop
  | 0, x => T x = true
  | k + 1, x => ∃ y, E x y ∧ Bk T E k y

def Mn (T : Nat → Bool) (E : Nat → Nat → Prop) (k x : Nat) : Prop := Bk T E k x ∧ ∀ j, j < k → ¬ Bk T E j x

theorem Mn.uniq {T : Nat → Bool} {E : Nat → Nat → Prop} {k j x : Nat} (h : Mn T E k x) (h' : Mn T E j x) : k = j := by
  by_cases h1 : k < j
  · exact absurd h.1 (h'.2 k h1)
  · by_cases h2 : j < k
    · exact absurd h'.1 (h.2 j h2)
    · omega

/-- How far the next target is, and 1, as far as r; 0: further. -/
def lev (L : Nat → Nat) (Z : Nat → Nat → Int) (T : Nat → Bool) : Nat → Nat → Int
  | 0, x => if T x = true then 1 else 0
  | r + 1, x => if lev L Z T r x = 0 ∧ ∃ i, i < L x ∧ lev L Z T r (Z x i).toNat = (r : Int) + 1 then (r : Int) + 2 else lev L Z T r x

section
variable {G : Nat} {L : Nat → Nat} {Z : Nat → Nat → Int} {T : Nat → Bool}

/-- One may go from x to y, both of them nodes. -/
def Ego (G : Nat) (L : Nat → Nat) (Z : Nat → Nat → Int) (x y : Nat) : Prop := x < G ∧ ∃ i, i < L x ∧ Z x i = (y : Int)

theorem lev_all (hZ : ∀ x, x < G → ∀ i, i < L x → 0 ≤ Z x i ∧ Z x i < G) : ∀ r x, x < G →
    (∃ k, k ≤ r ∧ Mn T (Ego G L Z) k x ∧ lev L Z T r x = (k : Int) + 1) ∨ ((∀ k, k ≤ r → ¬ Bk T (Ego G L Z) k x) ∧ lev L Z T r x = 0)
  | 0, x, hx => by
    by_cases h : T x = true
    · exact Or.inl ⟨0, Nat.le_refl _, ⟨h, fun j hj => by omega⟩, by simp [lev, h]⟩
    · refine Or.inr ⟨fun k hk hb => ?_, by simp [lev, h]⟩
      obtain rfl : k = 0 := by omega
      exact h hb
  | r + 1, x, hx => by
    rcases lev_all hZ r x hx with ⟨k, hk, hm, hl⟩ | ⟨hno, hl⟩
    · refine Or.inl ⟨k, by omega, hm, ?_⟩
      simp only [lev]
      rw [if_neg (fun hh => by rw [hl] at hh; omega)]
      exact hl
    · simp only [lev]
      by_cases hex : ∃ i, i < L x ∧ lev L Z T r (Z x i).toNat = (r : Int) + 1
      · rw [if_pos ⟨hl, hex⟩]
        obtain ⟨i, hi, hi2⟩ := hex
        have hz := hZ x hx i hi
        refine Or.inl ⟨r + 1, Nat.le_refl _, ⟨?_, fun j hj => hno j (by omega)⟩, by omega⟩
        rcases lev_all hZ r (Z x i).toNat (by omega) with ⟨k, hk, hm, hl2⟩ | ⟨_, hl2⟩
        · have : k = r := by omega
          subst this
          exact ⟨(Z x i).toNat, ⟨hx, i, hi, by omega⟩, hm.1⟩
        · omega
      · rw [if_neg (fun hh => hex hh.2)]
        refine Or.inr ⟨fun k hk hb => ?_, hl⟩
        by_cases e : k ≤ r
        · exact hno k e hb
        · obtain rfl : k = r + 1 := by omega
          obtain ⟨y, ⟨_, i, hi, hy⟩, hb2⟩ := hb
          have hz := hZ x hx i hi
          have hyy : (Z x i).toNat = y := by omega
          rcases lev_all hZ r y (by omega) with ⟨j, hj, hm, hl2⟩ | ⟨hno2, _⟩
          · by_cases ej : j = r
            · subst ej
              exact hex ⟨i, hi, by rw [hyy]; exact hl2⟩
            · exact hno (j + 1) (by omega) ⟨y, ⟨hx, i, hi, hy⟩, hm.1⟩
          · exact hno2 r (Nat.le_refl _) hb2

theorem lev_iff (hZ : ∀ x, x < G → ∀ i, i < L x → 0 ≤ Z x i ∧ Z x i < G) {r k x : Nat} (hx : x < G) (hk : k ≤ r) : lev L Z T r x = (k : Int) + 1 ↔ Mn T (Ego G L Z) k x := by
  rcases lev_all (T := T) hZ r x hx with ⟨j, hj, hm, hl⟩ | ⟨hno, hl⟩
  · constructor
    · intro h
      have : j = k := by omega
      rw [← this]
      exact hm
    · intro h
      rw [hl, h.uniq hm]
  · constructor
    · intro h; omega
    · intro h
      exact absurd h.1 (hno k hk)

/-- From a node of a way of so many goings on to a target: that one is not further than both. -/
theorem wk_bk {P : Nat → Prop} : ∀ {k m x}, Wk P (Ego G L Z) k x → Bk T (Ego G L Z) m x → x < G → (∀ x, x < G → ∀ i, i < L x → 0 ≤ Z x i ∧ Z x i < G) → ∃ t, t < G ∧ T t = true ∧ Wk P (Ego G L Z) (k + m) t
  | k, 0, x, hw, hb, hx, _ => ⟨x, hx, hb, hw⟩
  | k, m + 1, x, hw, ⟨y, hxy, hb⟩, hx, hZ => by
    have hy : y < G := by
      obtain ⟨_, i, hi, e⟩ := hxy
      have := hZ x hx i hi
      omega
    obtain ⟨t, ht, hT, hwt⟩ := wk_bk (k := k + 1) ⟨x, hw, hxy⟩ hb hy hZ
    exact ⟨t, ht, hT, by rw [show k + (m + 1) = k + 1 + m from by omega]; exact hwt⟩

/-- The other way: from a target back. -/
theorem bk_of_wk {P : Nat → Prop} : ∀ {k m t}, Wk P (Ego G L Z) k t → Bk T (Ego G L Z) m t → ∃ x, P x ∧ Bk T (Ego G L Z) (k + m) x
  | 0, m, t, hw, hb => ⟨t, hw, by rw [Nat.zero_add]; exact hb⟩
  | k + 1, m, t, ⟨y, hw, hyt⟩, hb => by
    obtain ⟨x, hx, hbx⟩ := bk_of_wk (m := m + 1) hw ⟨t, hyt, hb⟩
    exact ⟨x, hx, by rw [show k + 1 + m = k + (m + 1) from by omega]; exact hbx⟩

/-- The nodes of the way: the d-th one, by the predicates of each step. -/
def nd (L : Nat → Nat) (Z : Nat → Nat → Int) (n : Nat) (Y : Nat → Int) (p : Nat → Nat → Bool) : Nat → Int
  | 0 => best (p 0) Y n
  | d + 1 => best (p (d + 1)) (Z (nd L Z n Y p d).toNat) (L (nd L Z n Y p d).toNat)

/-- By how far the next target is. -/
def byLev (G : Nat) (L : Nat → Nat) (Z : Nat → Nat → Int) (T : Nat → Bool) (len d x : Nat) : Bool := decide (lev L Z T G x = (len : Int) + 1 - d)
/-- By what leads on, and how far it is from the beginning. -/
def byFar (G : Nat) (L : Nat → Nat) (Z : Nat → Nat → Int) (T : Nat → Bool) (F : Nat → Int) (len d x : Nat) : Bool := decide (F x ≤ len ∧ lev L Z T G x = (len : Int) + 1 - F x) && decide (F x = d)

/-- What is known of the beginning and the nearest target. -/
structure Near (G : Nat) (L : Nat → Nat) (Z : Nat → Nat → Int) (T : Nat → Bool) (n : Nat) (Y : Nat → Int) (F : Nat → Int) (len : Nat) : Prop where
  hZ : ∀ x, x < G → ∀ i, i < L x → 0 ≤ Z x i ∧ Z x i < G
  hY : ∀ i, i < n → 0 ≤ Y i ∧ Y i < G
  snd : ∀ x, x < G → F x ≠ -1 → 0 ≤ F x ∧ F x < G ∧ Wk (fun x => ∃ i, i < n ∧ Y i = (x : Int)) (Ego G L Z) (F x).toNat x
  all : ∀ k x, x < G → Wk (fun x => ∃ i, i < n ∧ Y i = (x : Int)) (Ego G L Z) k x → F x ≠ -1 ∧ F x ≤ k
  tgt : ∃ t, t < G ∧ T t = true ∧ F t = len
  min : ∀ t, t < G → T t = true → F t ≠ -1 → (len : Int) ≤ F t

variable {n : Nat} {Y : Nat → Int} {F : Nat → Int} {len : Nat}

theorem Near.lenG (h : Near G L Z T n Y F len) : len < G := by
  obtain ⟨t, ht, _, e⟩ := h.tgt
  have := (h.snd t ht (by omega)).2.1
  omega

/-- No target is nearer. -/
theorem Near.far (h : Near G L Z T n Y F len) {x m : Nat} (hx : x < G) (hF : F x ≠ -1) (hb : Bk T (Ego G L Z) m x) : (len : Int) ≤ F x + m := by
  obtain ⟨h0, _, hw⟩ := h.snd x hx hF
  obtain ⟨t, ht, hT, hwt⟩ := wk_bk hw hb hx h.hZ
  obtain ⟨h1, h2⟩ := h.all _ t ht hwt
  have := h.min t ht hT h1
  omega

theorem Near.step (h : Near G L Z T n Y F len) {x y : Nat} (hx : x < G) (hF : F x ≠ -1) (hxy : Ego G L Z x y) : y < G ∧ F y ≠ -1 ∧ F y ≤ F x + 1 := by
  obtain ⟨h0, _, hw⟩ := h.snd x hx hF
  have hy : y < G := by
    obtain ⟨_, i, hi, e⟩ := hxy
    have := h.hZ x hx i hi
    omega
  obtain ⟨h1, h2⟩ := h.all ((F x).toNat + 1) y hy ⟨x, hw, hxy⟩
  exact ⟨hy, h1, by omega⟩

/-- Of a node whose distance is F x: it stands on a shortest way just if the next target is as far as is left. -/
theorem Near.on (h : Near G L Z T n Y F len) {x : Nat} (hx : x < G) (hF : F x ≠ -1) {m : Nat} (hm : F x + m = len) : lev L Z T G x = (m : Int) + 1 ↔ Bk T (Ego G L Z) m x := by
  have hl := h.lenG
  have h0 := (h.snd x hx hF).1
  rw [lev_iff h.hZ hx (by omega)]
  constructor
  · exact fun hh => hh.1
  · intro hb
    refine ⟨hb, fun j hj hbj => ?_⟩
    have := h.far hx hF hbj
    omega

/-- The nodes of the way, by either: they are the same, and as far as they should be. -/
theorem Near.nodes (h : Near G L Z T n Y F len) : ∀ d, d ≤ len →
    nd L Z n Y (byFar G L Z T F len) d = nd L Z n Y (byLev G L Z T len) d ∧ ∃ x : Nat, nd L Z n Y (byLev G L Z T len) d = (x : Int) ∧ x < G ∧ F x = d ∧ lev L Z T G x = (len : Int) + 1 - d
  | 0, _ => by
    have hl := h.lenG
    have hY0 : ∀ i, i < n → F (Y i).toNat = 0 := fun i hi => by
      have := h.hY i hi
      obtain ⟨h1, h2⟩ := h.all 0 (Y i).toNat (by omega) ⟨i, hi, by omega⟩
      have := (h.snd (Y i).toNat (by omega) h1).1
      omega
    have e : nd L Z n Y (byFar G L Z T F len) 0 = nd L Z n Y (byLev G L Z T len) 0 := by
      refine best_congr n (fun i hi => ?_)
      unfold byFar byLev
      rw [hY0 i hi]
      have : (0 : Int) ≤ (len : Int) := by omega
      simp [this]
    refine ⟨e, ?_⟩
    have hne : best (byLev G L Z T len 0) Y n ≠ -1 := fun hb => by
      have hno := best_none n (fun i hi => (h.hY i hi).1) hb
      obtain ⟨t, ht, hT, hFt⟩ := h.tgt
      obtain ⟨_, _, hw⟩ := h.snd t ht (by omega)
      obtain ⟨x, ⟨i, hi, hxi⟩, hbx⟩ := bk_of_wk (T := T) (m := 0) hw hT
      have hx := h.hY i hi
      have hFx := hY0 i hi
      have hxx : (Y i).toNat = x := by omega
      have := hno i hi
      unfold byLev at this
      rw [decide_eq_false_iff_not] at this
      refine this ?_
      rw [hxx] at hFx ⊢
      have e2 := (h.on (x := x) (by omega) (by omega) (m := len) (by omega)).2 (by rw [show len = (F t).toNat + 0 from by omega]; exact hbx)
      rw [e2]
      omega
    obtain ⟨i, hi, e1, hp⟩ := best_some n hne
    have hyi := h.hY i hi
    unfold byLev at hp
    rw [decide_eq_true_eq] at hp
    exact ⟨(Y i).toNat, by show best _ Y n = _; rw [e1]; omega, by omega, by rw [hY0 i hi]; rfl, hp⟩
  | d + 1, hd => by
    have hl := h.lenG
    obtain ⟨e, x, ex, hx, hFx, hlx⟩ := Near.nodes h d (by omega)
    have hFn : F x ≠ -1 := by omega
    have hbx := (h.on hx hFn (m := len - d) (by omega)).1 (by rw [hlx]; omega)
    have agree : ∀ i, i < L x → byFar G L Z T F len (d + 1) (Z x i).toNat = byLev G L Z T len (d + 1) (Z x i).toNat := fun i hi => by
      have hz := h.hZ x hx i hi
      obtain ⟨hy, hFy, hFy2⟩ := h.step hx hFn ⟨hx, i, hi, show Z x i = ((Z x i).toNat : Int) by omega⟩
      have hr := (h.snd _ hy hFy).1
      rw [Bool.eq_iff_iff]
      unfold byFar byLev
      simp only [Bool.and_eq_true, decide_eq_true_eq]
      constructor
      · rintro ⟨⟨h1, h2⟩, h3⟩
        rw [h3] at h2
        exact h2
      · intro h1
        have hm := (lev_iff (r := G) h.hZ hy (k := len - (d + 1)) (by omega)).1 (by rw [h1]; omega)
        have := h.far hy hFy hm.1
        have hFe : F (Z x i).toNat = ((d + 1 : Nat) : Int) := by omega
        exact ⟨⟨by omega, by rw [hFe]; exact h1⟩, hFe⟩
    have e' : nd L Z n Y (byFar G L Z T F len) (d + 1) = nd L Z n Y (byLev G L Z T len) (d + 1) := by
      show best _ (Z (nd L Z n Y (byFar G L Z T F len) d).toNat) (L (nd L Z n Y (byFar G L Z T F len) d).toNat) = best _ (Z (nd L Z n Y (byLev G L Z T len) d).toNat) (L (nd L Z n Y (byLev G L Z T len) d).toNat)
      rw [e, ex, Int.toNat_natCast]
      exact best_congr (L x) agree
    refine ⟨e', ?_⟩
    have hne : best (byLev G L Z T len (d + 1)) (Z x) (L x) ≠ -1 := fun hb => by
      have hno := best_none (L x) (fun i hi => (h.hZ x hx i hi).1) hb
      have hbx' : Bk T (Ego G L Z) ((len - (d + 1)) + 1) x := by rw [show len - (d + 1) + 1 = len - d from by omega]; exact hbx
      obtain ⟨y, hxy, hby⟩ := hbx'
      obtain ⟨hy, hFy, hFy2⟩ := h.step hx hFn hxy
      obtain ⟨_, i, hi, ei⟩ := hxy
      have hyy : (Z x i).toNat = y := by omega
      have hfar := h.far hy hFy hby
      have hFe : F y = ((d + 1 : Nat) : Int) := by omega
      have hly := (h.on hy hFy (m := len - (d + 1)) (by omega)).2 hby
      have := hno i hi
      unfold byLev at this
      rw [decide_eq_false_iff_not, hyy] at this
      exact this (by rw [hly]; omega)
    obtain ⟨i, hi, e1, hp⟩ := best_some (L x) hne
    have hz := h.hZ x hx i hi
    have hFy : F (Z x i).toNat = ((d + 1 : Nat) : Int) := by
      rw [← agree i hi] at hp
      unfold byFar at hp
      simp only [Bool.and_eq_true, decide_eq_true_eq] at hp
      exact hp.2
    unfold byLev at hp
    rw [decide_eq_true_eq] at hp
    refine ⟨(Z x i).toNat, ?_, by omega, hFy, hp⟩
    show best _ (Z (nd L Z n Y (byLev G L Z T len) d).toNat) (L (nd L Z n Y (byLev G L Z T len) d).toNat) = _
    rw [ex, Int.toNat_natCast, e1]
    omega

end
end Go.Proofs.Ythpbgfodejoecaa

namespace Go.Proofs.Ythpbgfodejoecaa
open Go.RowKit

/-- What leading is to tell. -/
structure Leads (G : Nat) (L : Nat → Nat) (Z : Nat → Nat → Int) (T : Nat → Bool) (F : Nat → Int) (O : List Int) (len : Int) (LD : Nat → Bool) : Prop where
  at0 : ∀ x, x < G → (x : Int) ∈ O → F x = len → LD x = T x
  more : ∀ x, x < G → (x : Int) ∈ O → F x < len → (best (fun y => LD y && decide (F y = F x + 1)) (Z x) (L x) != -1) = LD x
  past : ∀ x, x < G → (x : Int) ∈ O → len < F x → LD x = false

end Go.Proofs.Ythpbgfodejoecaa

namespace Go.Proofs.Ythpbgfodejoecaa
open Go.RowKit

def wayL (L : Nat → Nat) (Z : Nat → Nat → Int) (n : Nat) (Y : Nat → Int) (p : Nat → Nat → Bool) (k : Nat) : List Int := (List.range k).map (nd L Z n Y p)
theorem wayL_len (L : Nat → Nat) (Z : Nat → Nat → Int) (n : Nat) (Y : Nat → Int) (p : Nat → Nat → Bool) (k : Nat) : (wayL L Z n Y p k).length = k := by simp [wayL]

/-- Two ways to say which nodes one may go to. -/
theorem ed_ego {G : Nat} {L : Nat → Nat} {Z : Nat → Nat → Int} : Ed G L Z = Ego G L Z := by
  funext x y
  unfold Ed Ego
  rw [has_iff]

theorem src_eq {n : Nat} {Y : Nat → Int} : Src n Y = fun x : Nat => ∃ i, i < n ∧ Y i = (x : Int) := by
  funext x
  unfold Src
  rw [has_iff]

/-- Which nodes stand on a shortest way. -/
def onWay (G : Nat) (L : Nat → Nat) (Z : Nat → Nat → Int) (T : Nat → Bool) (F : Nat → Int) (len x : Nat) : Bool := decide (F x ≤ len ∧ lev L Z T G x = (len : Int) + 1 - F x)

theorem Near.leads {G : Nat} {L : Nat → Nat} {Z : Nat → Nat → Int} {n : Nat} {Y : Nat → Int} {F : Nat → Int} {O : List Int} {T : Nat → Bool} {len : Nat} (h : Near G L Z T n Y F len) (hmem : ∀ x, x < G → ((x : Int) ∈ O ↔ F x ≠ -1)) : Leads G L Z T F O len (onWay G L Z T F len) := by
  have hl := h.lenG
  refine ⟨fun x hx hO e => ?_, fun x hx hO hlt => ?_, fun x hx hO hlt => ?_⟩
  · have hF := (hmem x hx).1 hO
    have := h.on hx hF (m := 0) (by omega)
    rw [Bool.eq_iff_iff]
    unfold onWay
    rw [decide_eq_true_eq]
    constructor
    · rintro ⟨_, h2⟩
      exact this.1 (by rw [h2]; omega)
    · intro hT
      exact ⟨by omega, by rw [this.2 hT]; omega⟩
  · have hF := (hmem x hx).1 hO
    have h0 := (h.snd x hx hF).1
    obtain ⟨m, hm⟩ : ∃ m : Nat, F x + (m + 1 : Nat) = len := ⟨((len : Int) - F x - 1).toNat, by omega⟩
    have hon := h.on hx hF hm
    have hstep : ∀ i, i < L x → (Z x i).toNat < G ∧ F (Z x i).toNat ≠ -1 ∧ F (Z x i).toNat ≤ F x + 1 ∧ Ego G L Z x (Z x i).toNat := fun i hi => by
      have hz := h.hZ x hx i hi
      have he : Ego G L Z x (Z x i).toNat := ⟨hx, i, hi, by omega⟩
      obtain ⟨a, b, c⟩ := h.step hx hF he
      exact ⟨a, b, c, he⟩
    rw [Bool.eq_iff_iff, bne_iff_ne]
    constructor
    · intro hb
      obtain ⟨i, hi, _, hp⟩ := best_some (L x) hb
      obtain ⟨hy, hFy, _, he⟩ := hstep i hi
      simp only [Bool.and_eq_true, decide_eq_true_eq, onWay] at hp
      unfold onWay
      rw [decide_eq_true_eq]
      have hby := (h.on hy hFy (m := m) (by omega)).1 (by rw [hp.1.2]; omega)
      exact ⟨by omega, by rw [hon.2 ⟨_, he, hby⟩]; omega⟩
    · intro hx1 hb
      unfold onWay at hx1
      rw [decide_eq_true_eq] at hx1
      obtain ⟨y, hxy, hby⟩ := hon.1 (by rw [hx1.2]; omega)
      obtain ⟨_, i, hi, ei⟩ := hxy
      have hyy : (Z x i).toNat = y := by omega
      obtain ⟨hy, hFy, hFy2, _⟩ := hstep i hi
      rw [hyy] at hy hFy hFy2
      have hfar := h.far hy hFy hby
      have hly := (h.on hy hFy (m := m) (by omega)).2 hby
      have := best_none (L x) (fun i hi => (h.hZ x hx i hi).1) hb i hi
      rw [hyy] at this
      simp only [onWay] at this
      have hA : F y ≤ len ∧ lev L Z T G y = (len : Int) + 1 - F y := ⟨by omega, by rw [hly]; omega⟩
      have hB : F y = F x + 1 := by omega
      rw [decide_eq_true hA, decide_eq_true hB] at this
      cases this
  · unfold onWay
    rw [decide_eq_false_iff_not]
    omega

/-- What Way answers. -/
def WayIs (G : Nat) (L : Nat → Nat) (Z : Nat → Nat → Int) (T : Nat → Bool) (n : Nat) (Y : Nat → Int) (w w' : World) (v : Value) (is : Bool) : Prop :=
  (is = false ∧ v = .slice none 0 0 ∧ ∀ x, x < G → T x = true → ¬ Comes G L Z n Y x) ∨
  (is = true ∧ ∃ (F : Nat → Int) (len : Nat), Near G L Z T n Y F len ∧ w'.ownsRow w.heap.size 3 1 v (len + 1) (vals (wayL L Z n Y (byLev G L Z T len) (len + 1))))

end Go.Proofs.Ythpbgfodejoecaa

namespace Go.Proofs.Ythpbgfodejoecaa
open Go.RowKit

def RchG (E : Nat → Nat → Prop) (a b : Nat) : Prop := ∃ k, Wk (fun x => x = a) E k b

section
variable {E : Nat → Nat → Prop}
theorem RchG.refl (a : Nat) : RchG E a a := ⟨0, rfl⟩
theorem RchG.on {a b c : Nat} (h : RchG E a b) (e : E b c) : RchG E a c := by obtain ⟨k, hk⟩ := h; exact ⟨k + 1, b, hk, e⟩
theorem RchG.trans {a b c : Nat} (h : RchG E a b) (h' : RchG E b c) : RchG E a c := by
  obtain ⟨k, hk⟩ := h'
  have : ∀ k c, Wk (fun x => x = b) E k c → RchG E a c := by
    intro k
    induction k with
    | zero => intro c hc; have : c = b := hc; subst this; exact h
    | succ k ih =>
      intro c hc
      obtain ⟨y, hy, e⟩ := hc
      exact (ih y hy).on e
  exact this k c hk
theorem RchG.edge {a b : Nat} (e : E a b) : RchG E a b := (RchG.refl a).on e
/-- What goings never leave, no way leaves. -/
theorem RchG.stay {P : Nat → Prop} (hP : ∀ x y, P x → E x y → P y) {a b : Nat} (h : RchG E a b) (ha : P a) : P b := by
  obtain ⟨k, hk⟩ := h
  have : ∀ k b, Wk (fun x => x = a) E k b → P b := by
    intro k
    induction k with
    | zero => intro b hb; have : b = a := hb; subst this; exact ha
    | succ k ih =>
      intro b hb
      obtain ⟨y, hy, e⟩ := hb
      exact hP y b (ih y hy) e
  exact this k b hk
end

theorem comes_one {G : Nat} {L : Nat → Nat} {Z : Nat → Nat → Int} {a b : Nat} : Comes G L Z 1 (fun _ => (a : Int)) b ↔ RchG (Ego G L Z) a b := by
  unfold Comes RchG
  rw [ed_ego, src_eq]
  have : (fun x : Nat => ∃ i : Nat, i < 1 ∧ (a : Int) = (x : Int)) = fun x => x = a := by
    funext x
    rw [eq_iff_iff]
    constructor
    · rintro ⟨_, _, e⟩; omega
    · intro e; exact ⟨0, by omega, by omega⟩
  rw [this]

section
variable {G : Nat} {L : Nat → Nat} {Z : Nat → Nat → Int}

end

theorem Near.same {G : Nat} {L : Nat → Nat} {Z : Nat → Nat → Int} {T : Nat → Bool} {n : Nat} {Y : Nat → Int} {F F' : Nat → Int} {len len' : Nat} (h : Near G L Z T n Y F len) (h' : Near G L Z T n Y F' len') : len = len' := by
  have one : ∀ {F F' : Nat → Int} {len len' : Nat}, Near G L Z T n Y F len → Near G L Z T n Y F' len' → len' ≤ len := fun {F F' len len'} h h' => by
    obtain ⟨t, ht, hT, hF⟩ := h.tgt
    obtain ⟨h0, _, hw⟩ := h.snd t ht (by omega)
    obtain ⟨h1, h2⟩ := h'.all _ t ht hw
    have := h'.min t ht hT h1
    omega
  have a := one h h'
  have b := one h' h
  omega

theorem Near.comes {G : Nat} {L : Nat → Nat} {Z : Nat → Nat → Int} {T : Nat → Bool} {n : Nat} {Y : Nat → Int} {F : Nat → Int} {len : Nat} (h : Near G L Z T n Y F len) : ∃ t, t < G ∧ T t = true ∧ Comes G L Z n Y t := by
  obtain ⟨t, ht, hT, hF⟩ := h.tgt
  obtain ⟨_, _, hw⟩ := h.snd t ht (by omega)
  exact ⟨t, ht, hT, _, by rw [src_eq, ed_ego]; exact hw⟩

theorem WayIs.either {G : Nat} {L : Nat → Nat} {Z : Nat → Nat → Int} {T : Nat → Bool} {n : Nat} {Y : Nat → Int} {w w' : World} {v : Value} {is : Bool} (h : WayIs G L Z T n Y w w' v is) : (∀ x, x < G → T x = true → ¬ Comes G L Z n Y x) ∨ ∃ (F : Nat → Int) (len : Nat), Near G L Z T n Y F len := by
  rcases h with ⟨_, _, h⟩ | ⟨_, F, len, h, _⟩
  · exact Or.inl h
  · exact Or.inr ⟨F, len, h⟩

/-- What a way is in memory: a slice that holds just the nodes of the way. -/
theorem WayIs.row {G : Nat} {L : Nat → Nat} {Z : Nat → Nat → Int} {T : Nat → Bool} {n : Nat} {Y : Nat → Int} {w w' : World} {v : Value} {is : Bool} (h : WayIs G L Z T n Y w w' v is) : ∃ (a : Option Addr) (k c : Nat) (R : Nat → Int), v = .slice a k c ∧ Row w' a k R ∧
    ((is = false ∧ k = 0 ∧ ∀ x, x < G → T x = true → ¬ Comes G L Z n Y x) ∨ (is = true ∧ ∃ (F : Nat → Int) (len : Nat), Near G L Z T n Y F len ∧ k = len + 1 ∧ ∀ i, i < len + 1 → R i = nd L Z n Y (byLev G L Z T len) i)) := by
  rcases h with ⟨h1, rfl, h2⟩ | ⟨h1, F, len, h2, h3⟩
  · exact ⟨none, 0, 0, fun _ => 0, rfl, row_zero _ _ _, Or.inl ⟨h1, rfl, h2⟩⟩
  · have hl := wayL_len L Z n Y (byLev G L Z T len) (len + 1)
    obtain ⟨a, c, e, hr⟩ := owns_row (l := wayL L Z n Y (byLev G L Z T len) (len + 1)) (by rw [hl]; exact h3)
    rw [hl] at e hr
    refine ⟨a, len + 1, c, _, e, hr, Or.inr ⟨h1, F, len, h2, rfl, fun i hi => ?_⟩⟩
    simp [wayL, hi]

end Go.Proofs.Ythpbgfodejoecaa

namespace Go.Proofs.Ythpbgfodejoecaa
open Go.RowKit

/-- From which markings the one without a token isn't come to. -/
def NvP (G F : Nat) (L : Nat → Nat) (Z : Nat → Nat → Int) (Y : Nat → Nat → Int) (i : Nat) : Prop := ¬ ∃ k, k < G ∧ zB F (Y k) = true ∧ RchG (Ego G L Z) i k

end Go.Proofs.Ythpbgfodejoecaa
