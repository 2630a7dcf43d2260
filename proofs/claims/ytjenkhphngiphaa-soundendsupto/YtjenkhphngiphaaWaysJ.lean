/- Shortest ways, as plain mathematics: how far the next target is, and which nodes the least of the shortest ways goes by. leastLeading and nearest, by their contracts. leastWay and Way, by their contracts. Small functions, by their contracts. What comes in a graph and in the one turned round; two ways. -/
import Derived.Test.YtjenkhphngiphaaBfs
import Derived.Test.YtjenkhphngiphaaMore
import Derived.Test.YtjenkhphngiphaaTurn
import Derived.Test.YtjenkhphngiphaaFam
namespace Go.Proofs.Ytjenkhphngiphaa

/-- The least number of a list of which p holds; -1 if there is none. -/
def best (p : Nat → Bool) (Y : Nat → Int) : Nat → Int
  | 0 => -1
  | k + 1 => if p (Y k).toNat = true ∧ (best p Y k = -1 ∨ Y k < best p Y k) then Y k else best p Y k

theorem best_congr {p q : Nat → Bool} {Y : Nat → Int} : ∀ n, (∀ i, i < n → p (Y i).toNat = q (Y i).toNat) → best p Y n = best q Y n
  | 0, _ => rfl
  | n + 1, h => by
    simp only [best]
    rw [best_congr n (fun i hi => h i (by omega)), h n (by omega)]

theorem best_none {p : Nat → Bool} {Y : Nat → Int} : ∀ n, (∀ i, i < n → 0 ≤ Y i) → best p Y n = -1 → ∀ i, i < n → p (Y i).toNat = false
  | 0, _, _, i, hi => by omega
  | n + 1, h0, h, i, hi => by
    simp only [best] at h
    have hn := h0 n (by omega)
    split at h
    · omega
    · rename_i hc
      by_cases e : i = n
      · subst e
        cases hp : p (Y i).toNat
        · rfl
        · exact absurd ⟨hp, Or.inl h⟩ hc
      · exact best_none n (fun i hi => h0 i (by omega)) h i (by omega)

theorem best_some {p : Nat → Bool} {Y : Nat → Int} : ∀ n, best p Y n ≠ -1 → ∃ i, i < n ∧ best p Y n = Y i ∧ p (Y i).toNat = true
  | 0, h => absurd rfl h
  | n + 1, h => by
    simp only [best] at h ⊢
    split at h
    · rename_i hc
      rw [if_pos hc]
      exact ⟨n, by omega, rfl, hc.1⟩
    · rename_i hc
      rw [if_neg hc]
      obtain ⟨i, hi, e, hp⟩ := best_some n h
      exact ⟨i, by omega, e, hp⟩

theorem best_range {p : Nat → Bool} {Y : Nat → Int} {n G : Nat} (h : ∀ i, i < n → 0 ≤ Y i ∧ Y i < G) : best p Y n = -1 ∨ (0 ≤ best p Y n ∧ best p Y n < G) := by
  by_cases e : best p Y n = -1
  · exact Or.inl e
  · obtain ⟨i, hi, e2, _⟩ := best_some n e
    rw [e2]
    exact Or.inr (h i hi)

/-- There is a way of k goings from x to a target. -/
def Bk (T : Nat → Bool) (E : Nat → Nat → Prop) : Nat → Nat → Prop
  | 0, x => T x = true
  | k + 1, x => ∃ y, E x y ∧ Bk T E k y

def Mn (T : Nat → Bool) (E : Nat → Nat → Prop) (k x : Nat) : Prop := Bk T E k x ∧ ∀ j, j < k → ¬ Bk T E j x

theorem Mn.uniq {T : Nat → Bool} {E : Nat → Nat → Prop} {k j x : Nat} (h : Mn T E k x) (h' : Mn T E j x) : k = j := by
  by_cases h1 : k < j
  · exact absurd h.1 (h'.2 k h1)
  · by_cases h2 : j < k
    · exact absurd h'.1 (h.2 j h2)
    · omega

/-- How far the next target is, and 1, as far as r; 0: further. -/
def lev (L : Nat → Nat) (Z : Nat → Nat → Int) (T : Nat → Bool) : Nat → Nat → Int
  | 0, x => if T x = true then 1 else 0
  | r + 1, x => if lev L Z T r x = 0 ∧ ∃ i, i < L x ∧ lev L Z T r (Z x i).toNat = (r : Int) + 1 then (r : Int) + 2 else lev L Z T r x

section
variable {G : Nat} {L : Nat → Nat} {Z : Nat → Nat → Int} {T : Nat → Bool}

/-- One may go from x to y, both of them nodes. -/
def Ego (G : Nat) (L : Nat → Nat) (Z : Nat → Nat → Int) (x y : Nat) : Prop := x < G ∧ ∃ i, i < L x ∧ Z x i = (y : Int)

theorem lev_all (hZ : ∀ x, x < G → ∀ i, i < L x → 0 ≤ Z x i ∧ Z x i < G) : ∀ r x, x < G →
    (∃ k, k ≤ r ∧ Mn T (Ego G L Z) k x ∧ lev L Z T r x = (k : Int) + 1) ∨ ((∀ k, k ≤ r → ¬ Bk T (Ego G L Z) k x) ∧ lev L Z T r x = 0)
  | 0, x, hx => by
    by_cases h : T x = true
    · exact Or.inl ⟨0, Nat.le_refl _, ⟨h, fun j hj => by omega⟩, by simp [lev, h]⟩
    · refine Or.inr ⟨fun k hk hb => ?_, by simp [lev, h]⟩
      obtain rfl : k = 0 := by omega
      exact h hb
  | r + 1, x, hx => by
    rcases lev_all hZ r x hx with ⟨k, hk, hm, hl⟩ | ⟨hno, hl⟩
    · refine Or.inl ⟨k, by omega, hm, ?_⟩
      simp only [lev]
      rw [if_neg (fun hh => by rw [hl] at hh; omega)]
      exact hl
    · simp only [lev]
      by_cases hex : ∃ i, i < L x ∧ lev L Z T r (Z x i).toNat = (r : Int) + 1
      · rw [if_pos ⟨hl, hex⟩]
        obtain ⟨i, hi, hi2⟩ := hex
        have hz := hZ x hx i hi
        refine Or.inl ⟨r + 1, Nat.le_refl _, ⟨?_, fun j hj => hno j (by omega)⟩, by omega⟩
        rcases lev_all hZ r (Z x i).toNat (by omega) with ⟨k, hk, hm, hl2⟩ | ⟨_, hl2⟩
        · have : k = r := by omega
          subst this
          exact ⟨(Z x i).toNat, ⟨hx, i, hi, by omega⟩, hm.1⟩
        · omega
      · rw [if_neg (fun hh => hex hh.2)]
        refine Or.inr ⟨fun k hk hb => ?_, hl⟩
        by_cases e : k ≤ r
        · exact hno k e hb
        · obtain rfl : k = r + 1 := by omega
          obtain ⟨y, ⟨_, i, hi, hy⟩, hb2⟩ := hb
          have hz := hZ x hx i hi
          have hyy : (Z x i).toNat = y := by omega
          rcases lev_all hZ r y (by omega) with ⟨j, hj, hm, hl2⟩ | ⟨hno2, _⟩
          · by_cases ej : j = r
            · subst ej
              exact hex ⟨i, hi, by rw [hyy]; exact hl2⟩
            · exact hno (j + 1) (by omega) ⟨y, ⟨hx, i, hi, hy⟩, hm.1⟩
          · exact hno2 r (Nat.le_refl _) hb2

theorem lev_iff (hZ : ∀ x, x < G → ∀ i, i < L x → 0 ≤ Z x i ∧ Z x i < G) {r k x : Nat} (hx : x < G) (hk : k ≤ r) : lev L Z T r x = (k : Int) + 1 ↔ Mn T (Ego G L Z) k x := by
  rcases lev_all (T := T) hZ r x hx with ⟨j, hj, hm, hl⟩ | ⟨hno, hl⟩
  · constructor
    · intro h
      have : j = k := by omega
      rw [← this]
      exact hm
    · intro h
      rw [hl, h.uniq hm]
  · constructor
    · intro h; omega
    · intro h
      exact absurd h.1 (hno k hk)

theorem lev_range (hZ : ∀ x, x < G → ∀ i, i < L x → 0 ≤ Z x i ∧ Z x i < G) {r x : Nat} (hx : x < G) : 0 ≤ lev L Z T r x ∧ lev L Z T r x ≤ (r : Int) + 1 := by
  rcases lev_all (T := T) hZ r x hx with ⟨j, hj, hm, hl⟩ | ⟨hno, hl⟩ <;> omega

/-- From a node of a way of so many goings on to a target: that one is not further than both. -/
theorem wk_bk {P : Nat → Prop} : ∀ {k m x}, Wk P (Ego G L Z) k x → Bk T (Ego G L Z) m x → x < G → (∀ x, x < G → ∀ i, i < L x → 0 ≤ Z x i ∧ Z x i < G) → ∃ t, t < G ∧ T t = true ∧ Wk P (Ego G L Z) (k + m) t
  | k, 0, x, hw, hb, hx, _ => ⟨x, hx, hb, hw⟩
  | k, m + 1, x, hw, ⟨y, hxy, hb⟩, hx, hZ => by
    have hy : y < G := by
      obtain ⟨_, i, hi, e⟩ := hxy
      have := hZ x hx i hi
      omega
    obtain ⟨t, ht, hT, hwt⟩ := wk_bk (k := k + 1) ⟨x, hw, hxy⟩ hb hy hZ
    exact ⟨t, ht, hT, by rw [show k + (m + 1) = k + 1 + m from by omega]; exact hwt⟩

/-- The other way: from a target back. -/
theorem bk_of_wk {P : Nat → Prop} : ∀ {k m t}, Wk P (Ego G L Z) k t → Bk T (Ego G L Z) m t → ∃ x, P x ∧ Bk T (Ego G L Z) (k + m) x
  | 0, m, t, hw, hb => ⟨t, hw, by rw [Nat.zero_add]; exact hb⟩
  | k + 1, m, t, ⟨y, hw, hyt⟩, hb => by
    obtain ⟨x, hx, hbx⟩ := bk_of_wk (m := m + 1) hw ⟨t, hyt, hb⟩
    exact ⟨x, hx, by rw [show k + 1 + m = k + (m + 1) from by omega]; exact hbx⟩

/-- The nodes of the way: the d-th one, by the predicates of each step. -/
def nd (L : Nat → Nat) (Z : Nat → Nat → Int) (n : Nat) (Y : Nat → Int) (p : Nat → Nat → Bool) : Nat → Int
  | 0 => best (p 0) Y n
  | d + 1 => best (p (d + 1)) (Z (nd L Z n Y p d).toNat) (L (nd L Z n Y p d).toNat)

/-- By how far the next target is. -/
def byLev (G : Nat) (L : Nat → Nat) (Z : Nat → Nat → Int) (T : Nat → Bool) (len d x : Nat) : Bool := decide (lev L Z T G x = (len : Int) + 1 - d)
/-- By what leads on, and how far it is from the beginning. -/
def byFar (G : Nat) (L : Nat → Nat) (Z : Nat → Nat → Int) (T : Nat → Bool) (F : Nat → Int) (len d x : Nat) : Bool := decide (F x ≤ len ∧ lev L Z T G x = (len : Int) + 1 - F x) && decide (F x = d)

/-- What is known of the beginning and the nearest target. -/
structure Near (G : Nat) (L : Nat → Nat) (Z : Nat → Nat → Int) (T : Nat → Bool) (n : Nat) (Y : Nat → Int) (F : Nat → Int) (len : Nat) : Prop where
  hZ : ∀ x, x < G → ∀ i, i < L x → 0 ≤ Z x i ∧ Z x i < G
  hY : ∀ i, i < n → 0 ≤ Y i ∧ Y i < G
  snd : ∀ x, x < G → F x ≠ -1 → 0 ≤ F x ∧ F x < G ∧ Wk (fun x => ∃ i, i < n ∧ Y i = (x : Int)) (Ego G L Z) (F x).toNat x
  all : ∀ k x, x < G → Wk (fun x => ∃ i, i < n ∧ Y i = (x : Int)) (Ego G L Z) k x → F x ≠ -1 ∧ F x ≤ k
  tgt : ∃ t, t < G ∧ T t = true ∧ F t = len
  min : ∀ t, t < G → T t = true → F t ≠ -1 → (len : Int) ≤ F t

variable {n : Nat} {Y : Nat → Int} {F : Nat → Int} {len : Nat}

theorem Near.lenG (h : Near G L Z T n Y F len) : len < G := by
  obtain ⟨t, ht, _, e⟩ := h.tgt
  have := (h.snd t ht (by omega)).2.1
  omega

/-- No target is nearer. -/
theorem Near.far (h : Near G L Z T n Y F len) {x m : Nat} (hx : x < G) (hF : F x ≠ -1) (hb : Bk T (Ego G L Z) m x) : (len : Int) ≤ F x + m := by
  obtain ⟨h0, _, hw⟩ := h.snd x hx hF
  obtain ⟨t, ht, hT, hwt⟩ := wk_bk hw hb hx h.hZ
  obtain ⟨h1, h2⟩ := h.all _ t ht hwt
  have := h.min t ht hT h1
  omega

theorem Near.step (h : Near G L Z T n Y F len) {x y : Nat} (hx : x < G) (hF : F x ≠ -1) (hxy : Ego G L Z x y) : y < G ∧ F y ≠ -1 ∧ F y ≤ F x + 1 := by
  obtain ⟨h0, _, hw⟩ := h.snd x hx hF
  have hy : y < G := by
    obtain ⟨_, i, hi, e⟩ := hxy
    have := h.hZ x hx i hi
    omega
  obtain ⟨h1, h2⟩ := h.all ((F x).toNat + 1) y hy ⟨x, hw, hxy⟩
  exact ⟨hy, h1, by omega⟩

/-- Of a node whose distance is F x: it stands on a shortest way just if the next target is as far as is left. -/
theorem Near.on (h : Near G L Z T n Y F len) {x : Nat} (hx : x < G) (hF : F x ≠ -1) {m : Nat} (hm : F x + m = len) : lev L Z T G x = (m : Int) + 1 ↔ Bk T (Ego G L Z) m x := by
  have hl := h.lenG
  have h0 := (h.snd x hx hF).1
  rw [lev_iff h.hZ hx (by omega)]
  constructor
  · exact fun hh => hh.1
  · intro hb
    refine ⟨hb, fun j hj hbj => ?_⟩
    have := h.far hx hF hbj
    omega

/-- The nodes of the way, by either: they are the same, and as far as they should be. -/
theorem Near.nodes (h : Near G L Z T n Y F len) : ∀ d, d ≤ len →
    nd L Z n Y (byFar G L Z T F len) d = nd L Z n Y (byLev G L Z T len) d ∧ ∃ x : Nat, nd L Z n Y (byLev G L Z T len) d = (x : Int) ∧ x < G ∧ F x = d ∧ lev L Z T G x = (len : Int) + 1 - d
  | 0, _ => by
    have hl := h.lenG
    have hY0 : ∀ i, i < n → F (Y i).toNat = 0 := fun i hi => by
      have := h.hY i hi
      obtain ⟨h1, h2⟩ := h.all 0 (Y i).toNat (by omega) ⟨i, hi, by omega⟩
      have := (h.snd (Y i).toNat (by omega) h1).1
      omega
    have e : nd L Z n Y (byFar G L Z T F len) 0 = nd L Z n Y (byLev G L Z T len) 0 := by
      refine best_congr n (fun i hi => ?_)
      unfold byFar byLev
      rw [hY0 i hi]
      have : (0 : Int) ≤ (len : Int) := by omega
      simp [this]
    refine ⟨e, ?_⟩
    have hne : best (byLev G L Z T len 0) Y n ≠ -1 := fun hb => by
      have hno := best_none n (fun i hi => (h.hY i hi).1) hb
      obtain ⟨t, ht, hT, hFt⟩ := h.tgt
      obtain ⟨_, _, hw⟩ := h.snd t ht (by omega)
      obtain ⟨x, ⟨i, hi, hxi⟩, hbx⟩ := bk_of_wk (T := T) (m := 0) hw hT
      have hx := h.hY i hi
      have hFx := hY0 i hi
      have hxx : (Y i).toNat = x := by omega
      have := hno i hi
      unfold byLev at this
      rw [decide_eq_false_iff_not] at this
      refine this ?_
      rw [hxx] at hFx ⊢
      have e2 := (h.on (x := x) (by omega) (by omega) (m := len) (by omega)).2 (by rw [show len = (F t).toNat + 0 from by omega]; exact hbx)
      rw [e2]
      omega
    obtain ⟨i, hi, e1, hp⟩ := best_some n hne
    have hyi := h.hY i hi
    unfold byLev at hp
    rw [decide_eq_true_eq] at hp
    exact ⟨(Y i).toNat, by show best _ Y n = _; rw [e1]; omega, by omega, by rw [hY0 i hi]; rfl, hp⟩
  | d + 1, hd => by
    have hl := h.lenG
    obtain ⟨e, x, ex, hx, hFx, hlx⟩ := Near.nodes h d (by omega)
    have hFn : F x ≠ -1 := by omega
    have hbx := (h.on hx hFn (m := len - d) (by omega)).1 (by rw [hlx]; omega)
    have agree : ∀ i, i < L x → byFar G L Z T F len (d + 1) (Z x i).toNat = byLev G L Z T len (d + 1) (Z x i).toNat := fun i hi => by
      have hz := h.hZ x hx i hi
      obtain ⟨hy, hFy, hFy2⟩ := h.step hx hFn ⟨hx, i, hi, show Z x i = ((Z x i).toNat : Int) by omega⟩
      have hr := (h.snd _ hy hFy).1
      rw [Bool.eq_iff_iff]
      unfold byFar byLev
      simp only [Bool.and_eq_true, decide_eq_true_eq]
      constructor
      · rintro ⟨⟨h1, h2⟩, h3⟩
        rw [h3] at h2
        exact h2
      · intro h1
        have hm := (lev_iff (r := G) h.hZ hy (k := len - (d + 1)) (by omega)).1 (by rw [h1]; omega)
        have := h.far hy hFy hm.1
        have hFe : F (Z x i).toNat = ((d + 1 : Nat) : Int) := by omega
        exact ⟨⟨by omega, by rw [hFe]; exact h1⟩, hFe⟩
    have e' : nd L Z n Y (byFar G L Z T F len) (d + 1) = nd L Z n Y (byLev G L Z T len) (d + 1) := by
      show best _ (Z (nd L Z n Y (byFar G L Z T F len) d).toNat) (L (nd L Z n Y (byFar G L Z T F len) d).toNat) = best _ (Z (nd L Z n Y (byLev G L Z T len) d).toNat) (L (nd L Z n Y (byLev G L Z T len) d).toNat)
      rw [e, ex, Int.toNat_natCast]
      exact best_congr (L x) agree
    refine ⟨e', ?_⟩
    have hne : best (byLev G L Z T len (d + 1)) (Z x) (L x) ≠ -1 := fun hb => by
      have hno := best_none (L x) (fun i hi => (h.hZ x hx i hi).1) hb
      have hbx' : Bk T (Ego G L Z) ((len - (d + 1)) + 1) x := by rw [show len - (d + 1) + 1 = len - d from by omega]; exact hbx
      obtain ⟨y, hxy, hby⟩ := hbx'
      obtain ⟨hy, hFy, hFy2⟩ := h.step hx hFn hxy
      obtain ⟨_, i, hi, ei⟩ := hxy
      have hyy : (Z x i).toNat = y := by omega
      have hfar := h.far hy hFy hby
      have hFe : F y = ((d + 1 : Nat) : Int) := by omega
      have hly := (h.on hy hFy (m := len - (d + 1)) (by omega)).2 hby
      have := hno i hi
      unfold byLev at this
      rw [decide_eq_false_iff_not, hyy] at this
      exact this (by rw [hly]; omega)
    obtain ⟨i, hi, e1, hp⟩ := best_some (L x) hne
    have hz := h.hZ x hx i hi
    have hFy : F (Z x i).toNat = ((d + 1 : Nat) : Int) := by
      rw [← agree i hi] at hp
      unfold byFar at hp
      simp only [Bool.and_eq_true, decide_eq_true_eq] at hp
      exact hp.2
    unfold byLev at hp
    rw [decide_eq_true_eq] at hp
    refine ⟨(Z x i).toNat, ?_, by omega, hFy, hp⟩
    show best _ (Z (nd L Z n Y (byLev G L Z T len) d).toNat) (L (nd L Z n Y (byLev G L Z T len) d).toNat) = _
    rw [ex, Int.toNat_natCast, e1]
    omega

end
end Go.Proofs.Ytjenkhphngiphaa

namespace Go.Proofs.Ytjenkhphngiphaa
open Go.RowKit

theorem best_hit {p : Nat → Bool} {Y : Nat → Int} {k t : Nat} {m : Int} (hm : best p Y k = m) (hz : Y k = t) (hp : p t = true) (h : m = -1 ∨ (t : Int) < m) : best p Y (k + 1) = t := by
  simp only [best]
  rw [hm, hz, Int.toNat_natCast, if_pos ⟨hp, h⟩]

theorem best_miss {p : Nat → Bool} {Y : Nat → Int} {k t : Nat} {m : Int} (hm : best p Y k = m) (hz : Y k = t) (h : ¬ (p t = true ∧ (m = -1 ∨ (t : Int) < m))) : best p Y (k + 1) = m := by
  simp only [best]
  rw [hm, hz, Int.toNat_natCast, if_neg h]

set_option maxHeartbeats 1000000 in
theorem leastLeading_any (a : Option Addr) (n c G fb lb : Nat) (Y : Nat → Int) (F : Nat → Int) (B : Nat → Bool) (d : Int) (w : World) (_hG : G ≤ 20000) (hn : n ≤ 140737488355328) (h : Row w a n Y) (hY : ∀ i, i < n → 0 ≤ Y i ∧ Y i < G)
    (hf : ∀ x, x < G → w.cell? ⟨fb, x, none⟩ = some (.int .i64 (F x))) (hb : ∀ x, x < G → w.cell? ⟨lb, x, none⟩ = some (.bool (B x))) :
    Calls Try.prog 106 #[.slice a n c, .slice (some ⟨fb, 0, none⟩) G G, .slice (some ⟨lb, 0, none⟩) G G, .int .i64 d] w fun e w' => e = .returned (.int .i64 (best (fun x => B x && decide (F x = d)) Y n)) ∧ w' = w := by
  obtain ⟨b, o, ha, hc⟩ := h
  have HC : Hid (∀ i, i < n → w.cell? ⟨b, o + i, none⟩ = some (.int .i64 (Y i))) := hc
  have HY : Hid (∀ i, i < n → 0 ≤ Y i ∧ Y i < G) := hY
  have HF : Hid (∀ x, x < G → w.cell? ⟨fb, x, none⟩ = some (.int .i64 (F x))) := hf
  have HB : Hid (∀ x, x < G → w.cell? ⟨lb, x, none⟩ = some (.bool (B x))) := hb
  clear hc hY hf hb
  go_enter Try.func106, Try.ntmps106
  go_wp2
  go_loop [9, 14] (fun l i => ∃ (k : Nat) (m : Int), k ≤ n ∧ i = .int .i64 k ∧ l = .int .i64 m ∧ Hid (best (fun x => B x && decide (F x = d)) Y k = m)) (fun _ i => n - (intOf i).toNat)
  case atStart => exact ⟨0, -1, Nat.zero_le _, rfl, rfl, hid rfl⟩
  case round =>
    obtain ⟨k, m, hk, rfl, rfl, HM⟩ := hrel
    by_cases hlt : k < n
    · obtain rfl := ha (by omega)
      obtain ⟨t, ht⟩ : ∃ t : Nat, Y k = t := ⟨(Y k).toNat, by have := HY.out k hlt; omega⟩
      have htG : t < G := by have := HY.out k hlt; omega
      have htz : (t : Int) < G := by omega
      have hcell := HC.out k hlt
      rw [ht] at hcell
      have HT : Hid (Y k = t) := ht
      have hcf := HF.out t htG
      have hcb := HB.out t htG
      clear ht
      cases hB : B t
      · rw [hB] at hcb
        have HP : Hid (¬ ((B t && decide (F t = d)) = true ∧ (m = -1 ∨ (t : Int) < m))) := fun hh => by rw [hB] at hh; simp at hh
        clear hB
        go_wp2
        go_round
        case rel => exact ⟨k + 1, m, by omega, by go_num, rfl, hid (best_miss HM.out HT.out HP.out)⟩
        case measure => simp [intOf]; omega
      · rw [hB] at hcb
        by_cases hd : F t = d
        · have hd2 : (F t == d) = true := beq_iff_eq.2 hd
          have HP : Hid ((B t && decide (F t = d)) = true) := hid (by rw [hB, hd]; simp)
          clear hB hd
          by_cases h1 : m = -1
          · have hb1 : (m == -1) = true := beq_iff_eq.2 h1
            have HX : Hid (m = -1 ∨ (t : Int) < m) := Or.inl h1
            clear h1
            go_wp2
            go_round
            case rel => exact ⟨k + 1, t, by omega, by go_num, rfl, hid (best_hit HM.out HT.out HP.out HX.out)⟩
            case measure => simp [intOf]; omega
          · have hb1 : (m == -1) = false := beq_eq_false_iff_ne.2 h1
            have H1 : Hid (m ≠ -1) := h1
            clear h1
            by_cases h2 : (t : Int) < m
            · have HX : Hid (m = -1 ∨ (t : Int) < m) := Or.inr h2
              go_wp2
              go_round
              case rel => exact ⟨k + 1, t, by omega, by go_num, rfl, hid (best_hit HM.out HT.out HP.out HX.out)⟩
              case measure => simp [intOf]; omega
            · have HX : Hid (¬ ((B t && decide (F t = d)) = true ∧ (m = -1 ∨ (t : Int) < m))) := fun hh => hh.2.elim H1.out h2
              go_wp2
              go_round
              case rel => exact ⟨k + 1, m, by omega, by go_num, rfl, hid (best_miss HM.out HT.out HX.out)⟩
              case measure => simp [intOf]; omega
        · have hd2 : (F t == d) = false := beq_eq_false_iff_ne.2 hd
          have HP : Hid (¬ ((B t && decide (F t = d)) = true ∧ (m = -1 ∨ (t : Int) < m))) := fun hh => by simp [hd] at hh
          clear hB hd
          go_wp2
          go_round
          case rel => exact ⟨k + 1, m, by omega, by go_num, rfl, hid (best_miss HM.out HT.out HP.out)⟩
          case measure => simp [intOf]; omega
    · go_wp2
      obtain rfl : k = n := by omega
      go_ret
      exact ⟨ret_int HM.out.symm, rfl⟩

set_option maxHeartbeats 400000 in
theorem nearest_any (a : Option Addr) (n c G fb : Nat) (ta : Option Addr) (tc : Nat) (O : Nat → Int) (F : Nat → Int) (T : Nat → Bool) (w : World) (hG : G ≤ 20000) (hn : n ≤ 140737488355328) (h : Row w a n O) (hO : ∀ i, i < n → 0 ≤ O i ∧ O i < G)
    (hf : ∀ x, x < G → w.cell? ⟨fb, x, none⟩ = some (.int .i64 (F x))) (ht : Rowb w ta G T) :
    Calls Try.prog 84 #[.slice a n c, .slice (some ⟨fb, 0, none⟩) G G, .slice ta G tc] w fun e w' => (∃ r : Int, e = .returned (.int .i64 r) ∧
      ((r = -1 ∧ ∀ i, i < n → T (O i).toNat = false) ∨ ∃ i, i < n ∧ r = F (O i).toNat ∧ T (O i).toNat = true ∧ ∀ j, j < i → T (O j).toNat = false)) ∧ w' = w := by
  obtain ⟨b, o, ha, hc⟩ := h
  have HC : Hid (∀ i, i < n → w.cell? ⟨b, o + i, none⟩ = some (.int .i64 (O i))) := hc
  have HO : Hid (∀ i, i < n → 0 ≤ O i ∧ O i < G) := hO
  have HF : Hid (∀ x, x < G → w.cell? ⟨fb, x, none⟩ = some (.int .i64 (F x))) := hf
  obtain ⟨tb, to, hta, htc⟩ := ht
  have HTC : Hid (∀ x, x < G → w.cell? ⟨tb, to + x, none⟩ = some (.bool (T x))) := htc
  have HTA : Hid (0 < G → ta = some ⟨tb, to, none⟩) := hta
  clear hc hO hf htc hta
  go_enter Try.func84, Try.ntmps84
  go_wp2
  go_loop [11] (fun i => ∃ k : Nat, k ≤ n ∧ i = .int .i64 k ∧ Hid (∀ j, j < k → T (O j).toNat = false)) (fun i => n - (intOf i).toNat)
  case atStart => exact ⟨0, Nat.zero_le _, rfl, hid (fun j hj => absurd hj (Nat.not_lt_zero _))⟩
  case round =>
    obtain ⟨k, hk, rfl, H⟩ := hrel
    by_cases hlt : k < n
    · obtain rfl := ha (by omega)
      obtain ⟨t, ht⟩ : ∃ t : Nat, O k = t := ⟨(O k).toNat, by have := HO.out k hlt; omega⟩
      have htG : t < G := by have := HO.out k hlt; omega
      have htz : (t : Int) < G := by omega
      obtain rfl := HTA.out (by omega)
      have hcell := HC.out k hlt
      rw [ht] at hcell
      have HT : Hid (O k = t) := ht
      have hcf := HF.out t htG
      have hct := HTC.out t htG
      clear ht
      cases hB : T t
      · rw [hB] at hct
        have HB : Hid (T (O k).toNat = false) := by rw [HT.out, Int.toNat_natCast]; exact hB
        clear hB
        go_wp2
        go_round
        case rel => exact ⟨k + 1, by omega, by go_num, hid (snoc_all H.out HB.out)⟩
        case measure => simp [intOf]; omega
      · rw [hB] at hct
        have HB : Hid (T (O k).toNat = true ∧ F t = F (O k).toNat) := ⟨by rw [HT.out, Int.toNat_natCast]; exact hB, by rw [HT.out, Int.toNat_natCast]⟩
        clear hB
        go_wp2
        go_ret
        exact ⟨⟨_, rfl, Or.inr ⟨k, hlt, HB.out.2, HB.out.1, H.out⟩⟩, rfl⟩
    · go_wp2
      go_ret
      exact ⟨⟨_, rfl, Or.inl ⟨rfl, fun i hi => H.out i (by omega)⟩⟩, rfl⟩

/-- What is known of the nodes from the j-th one on. -/
def ldj (O : List Int) (LD : Nat → Bool) (j x : Nat) : Bool := decide ((x : Int) ∈ O.drop j) && LD x

theorem drop_eq {O : List Int} {k : Nat} (hk : k < O.length) : O.drop k = O.getD k 0 :: O.drop (k + 1) := by
  rw [List.getD_eq_getElem?_getD, List.getElem?_eq_getElem hk]
  exact List.drop_eq_getElem_cons hk

theorem ldj_set {O : List Int} {LD : Nat → Bool} {k x : Nat} (hk : k < O.length) (hx : O.getD k 0 = (x : Int)) (v : Bool) (hv : v = LD x) (y : Nat) : (if y = x then v else ldj O LD (k + 1) y) = ldj O LD k y := by
  unfold ldj
  rw [drop_eq hk, hx, hv]
  by_cases e : y = x
  · subst e; simp
  · rw [if_neg e]
    congr 1
    rw [decide_eq_decide, List.mem_cons]
    constructor
    · exact Or.inr
    · rintro (h | h)
      · exact absurd (by omega) e
      · exact h

theorem ldj_skip {O : List Int} {LD : Nat → Bool} {k x : Nat} (hk : k < O.length) (hx : O.getD k 0 = (x : Int)) (hv : LD x = false) (y : Nat) : ldj O LD (k + 1) y = ldj O LD k y := by
  rw [← ldj_set hk hx false hv.symm y]
  by_cases e : y = x
  · subst e; simp [ldj, hv]
  · rw [if_neg e]

theorem ldj_later {O : List Int} {LD : Nat → Bool} {F : Nat → Int} {k x y : Nat} (hk : k < O.length) (hx : O.getD k 0 = (x : Int)) (srt : O.Pairwise (fun a b => F a.toNat ≤ F b.toNat)) (hy : (y : Int) ∈ O) (hF : F y = F x + 1) : ldj O LD (k + 1) y = LD y := by
  unfold ldj
  have : (y : Int) ∈ O.drop (k + 1) := by
    obtain ⟨j, hj, ej⟩ := List.getElem_of_mem hy
    have hlt : k < j := by
      by_cases h : k < j
      · exact h
      · by_cases e : j = k
        · subst e
          rw [List.getD_eq_getElem?_getD, List.getElem?_eq_getElem hk] at hx
          have hx' : O[j] = (x : Int) := hx
          have : (y : Int) = x := by rw [← ej, hx']
          have : y = x := by omega
          subst this
          omega
        · have hp := List.pairwise_iff_getElem.1 srt j k hj hk (by omega)
          have hx' : O[k] = (x : Int) := by rw [List.getD_eq_getElem?_getD, List.getElem?_eq_getElem hk] at hx; exact hx
          rw [ej, hx', Int.toNat_natCast, Int.toNat_natCast] at hp
          omega
    rw [List.mem_iff_getElem]
    refine ⟨j - (k + 1), by rw [List.length_drop]; omega, ?_⟩
    rw [List.getElem_drop, ← ej]
    congr 1
    omega
  simp [this]

/-- What leading is to tell. -/
structure Leads (G : Nat) (L : Nat → Nat) (Z : Nat → Nat → Int) (T : Nat → Bool) (F : Nat → Int) (O : List Int) (len : Int) (LD : Nat → Bool) : Prop where
  at0 : ∀ x, x < G → (x : Int) ∈ O → F x = len → LD x = T x
  more : ∀ x, x < G → (x : Int) ∈ O → F x < len → (best (fun y => LD y && decide (F y = F x + 1)) (Z x) (L x) != -1) = LD x
  past : ∀ x, x < G → (x : Int) ∈ O → len < F x → LD x = false

set_option maxHeartbeats 1000000 in
theorem leading_any (ga : Option Addr) (G gc : Nat) (L : Nat → Nat) (Z : Nat → Nat → Int) (oa : Option Addr) (oc fb : Nat) (ta : Option Addr) (tc : Nat) (O : List Int) (F : Nat → Int) (T : Nat → Bool) (len : Int) (LD : Nat → Bool) (w : World)
    (hG : G ≤ 20000) (hL : ∀ r, r < G → L r ≤ 140737488355328) (hZ : ∀ x, x < G → ∀ i, i < L x → 0 ≤ Z x i ∧ Z x i < G) (h : Gr w ga G L Z) (hO : Row w oa O.length (fun i => O.getD i 0)) (hOl : O.length ≤ G) (hOi : ∀ y ∈ O, ∃ x : Nat, x < G ∧ y = (x : Int))
    (hmem : ∀ x, x < G → ((x : Int) ∈ O ↔ F x ≠ -1)) (hrng : ∀ x, x < G → F x ≠ -1 → 0 ≤ F x ∧ F x < G)
    (srt : O.Pairwise (fun a b => F a.toNat ≤ F b.toNat)) (hf : ∀ x, x < G → w.cell? ⟨fb, x, none⟩ = some (.int .i64 (F x))) (ht : Rowb w ta G T) (hLD : Leads G L Z T F O len LD) :
    Calls Try.prog 86 #[.slice ga G gc, .slice oa O.length oc, .slice (some ⟨fb, 0, none⟩) G G, .slice ta G tc, .int .i64 len] w fun e w' => e = .returned (.slice (some ⟨w.heap.size, 0, none⟩) G G) ∧ Below w.heap.size w w' ∧
      w'.rowIs w.heap.size 4 G (fun x => .bool (ldj O LD 0 x)) := by
  have HL : Hid (∀ r, r < G → L r ≤ 140737488355328) := hL
  have HZ : Hid (∀ x, x < G → ∀ i, i < L x → 0 ≤ Z x i ∧ Z x i < G) := hZ
  have HG : Hid (Gr w ga G L Z) := h
  obtain ⟨ob, oo, hoa, hoc⟩ := hO
  have HOC : Hid (∀ i, i < O.length → w.cell? ⟨ob, oo + i, none⟩ = some (.int .i64 (O.getD i 0))) := hoc
  have HOI : Hid (∀ y ∈ O, ∃ x : Nat, x < G ∧ y = (x : Int)) := hOi
  have HME : Hid ((∀ x, x < G → ((x : Int) ∈ O ↔ F x ≠ -1)) ∧ ∀ x, x < G → F x ≠ -1 → 0 ≤ F x ∧ F x < G) := ⟨hmem, hrng⟩
  have HS : Hid (O.Pairwise (fun a b => F a.toNat ≤ F b.toNat)) := srt
  have HF : Hid (∀ x, x < G → w.cell? ⟨fb, x, none⟩ = some (.int .i64 (F x))) := hf
  obtain ⟨tb, to, hta, htc⟩ := ht
  have HTC : Hid (∀ x, x < G → w.cell? ⟨tb, to + x, none⟩ = some (.bool (T x))) := htc
  have HTA : Hid (0 < G → ta = some ⟨tb, to, none⟩) := hta
  have HLD : Hid (Leads G L Z T F O len LD) := hLD
  clear hL hZ h hoc hOi hmem hrng srt hf htc hta hLD
  have hmk := run_make_row' (P := Try.prog) 59 4 (.bool false) 1 Try.underlying59 Try.info4 rfl .i64 .i64 G (by omega) (by omega)
  go_enter Try.func86, Try.ntmps86
  generalize hm : O.length = m at *
  have HM : Hid (O.length = m) := hm
  clear hm
  go_wp2
  clear hmk
  go_loopw [12] (fun i wr => ∃ (j : Nat) (z : Int), j ≤ m ∧ z + 1 = j ∧ i = .int .i64 z ∧ Hid (Below w.heap.size w wr ∧ wr.rowIs w.heap.size 4 G (fun x => .bool (ldj O LD j x)))) (fun i _ => (intOf i + 1).toNat)
  case atStart =>
    refine ⟨m, (m : Int) - 1, Nat.le_refl _, by omega, rfl, hid ⟨(Below.refl _ _).alloc (Nat.le_refl _) _, (World.rowIs_made w (.bool false) G 4).congr (fun x _ => ?_)⟩⟩
    have := HM.out
    simp [ldj, List.drop_eq_nil_of_le (Nat.le_of_eq this)]
  case round =>
    obtain ⟨j, z, hj, hz, rfl, HW⟩ := hrel
    cases j with
    | zero =>
      obtain rfl : z = -1 := by omega
      clear hz
      go_wp2
      go_ret
      exact ⟨rfl, HW.out.1, HW.out.2⟩
    | succ k =>
      obtain rfl : z = (k : Int) := by omega
      have hkm : k < m := by omega
      have hkz : (k : Int) < m := by omega
      clear hz
      obtain rfl := hoa (by omega)
      have hkO : k < O.length := by rw [HM.out]; exact hkm
      obtain ⟨x, hx, ex⟩ := HOI.out _ (getD_mem hkO)
      have EX : Hid (O.getD k 0 = (x : Int)) := ex
      have HXM : Hid ((x : Int) ∈ O) := hid (by rw [← ex]; exact getD_mem hkO)
      have hxz : (x : Int) < G := by omega
      have hcx : wr.cell? ⟨ob, oo + k, none⟩ = some (.int .i64 x) := by
        rw [HW.out.1.cell (p := ⟨ob, oo + k, none⟩) (World.block_lt_of_cell? _ _ (HOC.out k hkm)), HOC.out k hkm, ex]
      have hcf : wr.cell? ⟨fb, x, none⟩ = some (.int .i64 (F x)) := by
        rw [HW.out.1.cell (p := ⟨fb, x, none⟩) (World.block_lt_of_cell? _ _ (HF.out x hx))]; exact HF.out x hx
      have hFn := (HME.out.1 x hx).1 HXM.out
      have hFr := HME.out.2 x hx hFn
      have hF0 := hFr.1
      have hF1 := hFr.2
      have hlx := HW.out.2.cell hx
      have hlz := HW.out.2.frozen x
      clear ex hFn hFr
      by_cases h1 : F x = len
      · have hb1 : (F x == len) = true := beq_iff_eq.2 h1
        obtain rfl := HTA.out (by omega)
        have hct : wr.cell? ⟨tb, to + x, none⟩ = some (.bool (T x)) := by
          rw [HW.out.1.cell (p := ⟨tb, to + x, none⟩) (World.block_lt_of_cell? _ _ (HTC.out x hx))]; exact HTC.out x hx
        have HV : Hid (T x = LD x) := (HLD.out.at0 x hx HXM.out h1).symm
        clear h1
        go_wp2
        go_roundw
        case rel => exact ⟨k, (k : Int) - 1, by omega, by omega, rfl, hid ⟨HW.out.1.setCell (Nat.le_refl _) _, (HW.out.2.set x _).congr (fun y _ => by rw [← ldj_set hkO EX.out (T x) HV.out y]; split <;> rfl)⟩⟩
        case measure => simp [intOf]
      · have hb1 : (F x == len) = false := beq_eq_false_iff_ne.2 h1
        by_cases h2 : F x < len
        · obtain ⟨gb, go, hga, hgc⟩ := HG.out
          obtain rfl := hga (by omega)
          obtain ⟨a4, c4, hg0, hr0⟩ := hgc x hx
          have hgx : wr.cell? ⟨gb, go + x, none⟩ = some (.slice a4 (L x) c4) := by
            rw [HW.out.1.cell (p := ⟨gb, go + x, none⟩) (World.block_lt_of_cell? _ _ hg0)]; exact hg0
          have HR4 : Hid (Row wr a4 (L x) (Z x)) := hr0.below HW.out.1
          clear hg0 hr0 hgc hga
          have HC : Hid (∀ q, Calls Try.prog 106 #[.slice a4 (L x) c4, .slice (some ⟨fb, 0, none⟩) G G, .slice (some ⟨w.heap.size, 0, none⟩) G G, .int .i64 (F x + 1)] (wr.drewN q) fun e w' => e = .returned (.int .i64 (best (fun y => ldj O LD (k + 1) y && decide (F y = F x + 1)) (Z x) (L x))) ∧ w' = wr.drewN q) :=
            fun q => leastLeading_any a4 (L x) c4 G fb w.heap.size (Z x) F (ldj O LD (k + 1)) (F x + 1) (wr.drewN q) hG (HL.out x hx) HR4.out (HZ.out x hx)
              (fun y hy => by show wr.cell? _ = _; rw [HW.out.1.cell (p := ⟨fb, y, none⟩) (World.block_lt_of_cell? _ _ (HF.out y hy))]; exact HF.out y hy) (fun y hy => HW.out.2.cell hy)
          have HV : Hid ((best (fun y => ldj O LD (k + 1) y && decide (F y = F x + 1)) (Z x) (L x) != -1) = LD x) := by
            have := HLD.out.more x hx HXM.out h2
            refine hid (Eq.trans ?_ this)
            congr 1
            refine best_congr (L x) (fun i hi => ?_)
            have hzi := HZ.out x hx i hi
            by_cases e : F (Z x i).toNat = F x + 1
            · rw [ldj_later hkO EX.out HS.out ((HME.out.1 _ (by omega)).2 (by omega)) e]
            · simp [e]
          generalize best (fun y => ldj O LD (k + 1) y && decide (F y = F x + 1)) (Z x) (L x) = bv at *
          clear h1
          go_wp2_with fail
          refine wp_region_last 16 _ (by kernel_rfl) (by kernel_rfl) rfl rfl ?_
          simp only [List.take]
          repeat (go_big_quiet_step ((go_at_call 106; exact Calls.quiet_of_same (HC.out _))))
          refine wpQuiet_nil ?_
          intro nq
          go_wp2
          go_roundw
          case rel => exact ⟨k, (k : Int) - 1, by omega, by omega, rfl, hid ⟨(below_drewN HW.out.1 nq).setCell (Nat.le_refl _) _, ((show (wr.drewN nq).rowIs w.heap.size 4 G _ from HW.out.2).set x _).congr (fun y _ => by rw [← ldj_set hkO EX.out _ HV.out y]; split <;> rfl)⟩⟩
          case measure => simp [intOf]
        · have HV : Hid (LD x = false) := HLD.out.past x hx HXM.out (by omega)
          clear h1
          go_wp2
          go_roundw
          case rel => exact ⟨k, (k : Int) - 1, by omega, by omega, rfl, hid ⟨HW.out.1, HW.out.2.congr (fun y _ => by rw [ldj_skip hkO EX.out HV.out y])⟩⟩
          case measure => simp [intOf]

end Go.Proofs.Ytjenkhphngiphaa

namespace Go.Proofs.Ytjenkhphngiphaa
open Go.RowKit

/-- Among what the d-th node is chosen. -/
def chN (L : Nat → Nat) (Z : Nat → Nat → Int) (n : Nat) (Y : Nat → Int) (p : Nat → Nat → Bool) : Nat → Nat
  | 0 => n
  | d + 1 => L (nd L Z n Y p d).toNat
def chY (L : Nat → Nat) (Z : Nat → Nat → Int) (n : Nat) (Y : Nat → Int) (p : Nat → Nat → Bool) : Nat → Nat → Int
  | 0 => Y
  | d + 1 => Z (nd L Z n Y p d).toNat

theorem nd_ch (L : Nat → Nat) (Z : Nat → Nat → Int) (n : Nat) (Y : Nat → Int) (p : Nat → Nat → Bool) : ∀ d, nd L Z n Y p d = best (p d) (chY L Z n Y p d) (chN L Z n Y p d)
  | 0 => rfl
  | _ + 1 => rfl

def wayL (L : Nat → Nat) (Z : Nat → Nat → Int) (n : Nat) (Y : Nat → Int) (p : Nat → Nat → Bool) (k : Nat) : List Int := (List.range k).map (nd L Z n Y p)
theorem wayL_succ (L : Nat → Nat) (Z : Nat → Nat → Int) (n : Nat) (Y : Nat → Int) (p : Nat → Nat → Bool) (k : Nat) : wayL L Z n Y p (k + 1) = wayL L Z n Y p k ++ [nd L Z n Y p k] := by simp [wayL, List.range_succ]
theorem wayL_len (L : Nat → Nat) (Z : Nat → Nat → Int) (n : Nat) (Y : Nat → Int) (p : Nat → Nat → Bool) (k : Nat) : (wayL L Z n Y p k).length = k := by simp [wayL]

theorem leastWay_step {w wr w1 : World} {v v' : Value} {k : Nat} {l : List Int} {x : Int} {o : Obj} (hb : Below w.heap.size w wr) (ho : wr.ownsRow w.heap.size 3 1 v k (vals l)) (hown : w1.ownsRow w.heap.size 3 1 v' (k + 1) (vals l ++ [.int .i64 x])) (hg : (wr.alloc o).grownBy w1 v.ownBlock) :
    (∃ a c, v' = .slice a (k + 1) c) ∧ Hid (Below w.heap.size w w1 ∧ w1.ownsRow w.heap.size 3 1 v' (k + 1) (vals (l ++ [x]))) := by
  refine ⟨?_, (hb.grown ((World.grownBy_alloc _ _ _).trans hg) hb.size (fun j hj => (ho.lt j hj).1)), by rw [← vals_snoc]; exact hown⟩
  rcases hown.2 with ⟨_, h0⟩ | ⟨g, cap, cur, rfl, _⟩
  · omega
  · exact ⟨_, _, rfl⟩

set_option maxHeartbeats 1000000 in
theorem leastWay_any (ga : Option Addr) (G gc : Nat) (L : Nat → Nat) (Z : Nat → Nat → Int) (a : Option Addr) (n c : Nat) (Y : Nat → Int) (fb lb : Nat) (F : Nat → Int) (B : Nat → Bool) (len : Nat) (w : World)
    (hG : G ≤ 20000) (hlen : len < G) (hL : ∀ r, r < G → L r ≤ 140737488355328) (hn : n ≤ 140737488355328) (hZ : ∀ x, x < G → ∀ i, i < L x → 0 ≤ Z x i ∧ Z x i < G) (hY : ∀ i, i < n → 0 ≤ Y i ∧ Y i < G) (h : Gr w ga G L Z) (ha : Row w a n Y)
    (hf : ∀ x, x < G → w.cell? ⟨fb, x, none⟩ = some (.int .i64 (F x))) (hb : ∀ x, x < G → w.cell? ⟨lb, x, none⟩ = some (.bool (B x)))
    (hnd : ∀ d, d ≤ len → ∃ x : Nat, nd L Z n Y (fun d x => B x && decide (F x = d)) d = (x : Int) ∧ x < G) :
    Calls Try.prog 85 #[.slice ga G gc, .slice a n c, .slice (some ⟨fb, 0, none⟩) G G, .slice (some ⟨lb, 0, none⟩) G G, .int .i64 len] w fun e w' => ∃ v, e = .returned v ∧ Below w.heap.size w w' ∧
      w'.ownsRow w.heap.size 3 1 v (len + 1) (vals (wayL L Z n Y (fun d x => B x && decide (F x = d)) (len + 1))) := by
  have HL : Hid (∀ r, r < G → L r ≤ 140737488355328) := hL
  have HZ : Hid (∀ x, x < G → ∀ i, i < L x → 0 ≤ Z x i ∧ Z x i < G) := hZ
  have HY : Hid (∀ i, i < n → 0 ≤ Y i ∧ Y i < G) := hY
  have HG : Hid (Gr w ga G L Z) := h
  have HA : Hid (Row w a n Y) := ha
  have HF : Hid (∀ x, x < G → w.cell? ⟨fb, x, none⟩ = some (.int .i64 (F x))) := hf
  have HB : Hid (∀ x, x < G → w.cell? ⟨lb, x, none⟩ = some (.bool (B x))) := hb
  clear hL hZ hY h ha hf hb
  obtain ⟨i0, hi, hz0, hz1, hz2⟩ := info_parts Try.info3
  have HI : Hid (Try.prog.info? 3 = some i0 ∧ i0.zero = some (.int .i64 0) ∧ i0.size = 1 ∧ i0.bytes = 8) := ⟨hi, hz0, hz1, hz2⟩
  have hmk : ∀ u : World, (Instr.makeSlice 26 (.int .i64 0) (.int .i64 ((len : Int) + 1))).run Try.prog u = .ok (.slice (some ⟨u.heap.size, 0, none⟩) 0 (len + 1)) (u.alloc (.cells (madeCells #[.int .i64 0] (len + 1)) 3)) := fun u => by
    have h := run_make (P := Try.prog) u 26 3 i0 (.int .i64 0) Try.underlying26 hi hz0 .i64 .i64 0 ((len : Int) + 1) (by omega) (by omega) (by rw [hz2]; omega) (by omega)
    have e : ((len : Int) + 1).toNat = len + 1 := by omega
    rw [e] at h
    simpa [hz1, Value.cells] using h
  clear hi hz0 hz1 hz2
  generalize hp : (fun d x => B x && decide (F x = (d : Nat)) : Nat → Nat → Bool) = p at *
  have HP : Hid (∀ d, p d = fun x => B x && decide (F x = (d : Nat))) := fun d => by rw [← hp]
  have HND : Hid (∀ d, d ≤ len → ∃ x : Nat, nd L Z n Y p d = (x : Int) ∧ x < G) := hnd
  clear hp hnd
  go_enter Try.func85, Try.ntmps85
  go_wp2
  clear hmk
  go_loopw [11, 12, 13] (fun sw sc i wr => ∃ (d : Nat) (wa : Option Addr) (wc : Nat) (ca : Option Addr) (cc : Nat), d ≤ len + 1 ∧ i = .int .i64 d ∧ sw = .slice wa d wc ∧ sc = .slice ca (chN L Z n Y p d) cc ∧ Hid (Row w ca (chN L Z n Y p d) (chY L Z n Y p d) ∧ Below w.heap.size w wr ∧
      wr.ownsRow w.heap.size 3 1 (.slice wa d wc) d (vals (wayL L Z n Y p d)))) (fun _ _ i _ => len + 1 - (intOf i).toNat)
  case atStart =>
    refine ⟨0, _, _, _, _, Nat.zero_le _, rfl, rfl, rfl, hid ⟨HA.out, (Below.refl _ _).alloc (Nat.le_refl _) _, ?_⟩⟩
    exact World.ownsRow_made w _ (len + 1) (Nat.le_refl _) (by unfold maxLen; omega) (by simp [size_madeCells])
  case round =>
    obtain ⟨d, wa, wc, ca, cc, hd, rfl, rfl, rfl, HW⟩ := hrel
    by_cases hlt : d ≤ len
    · obtain ⟨x, ex, hx⟩ := HND.out d hlt
      have hdz : (d : Int) ≤ len := by omega
      have hxz : (x : Int) < G := by omega
      have hcn : chN L Z n Y p d ≤ 140737488355328 ∧ ∀ i, i < chN L Z n Y p d → 0 ≤ chY L Z n Y p d i ∧ chY L Z n Y p d i < G := by
        cases d with
        | zero => exact ⟨hn, HY.out⟩
        | succ d =>
          obtain ⟨y, ey, hy⟩ := HND.out d (by omega)
          simp only [chN, chY, ey, Int.toNat_natCast]
          exact ⟨HL.out y hy, HZ.out y hy⟩
      have C := leastLeading_any ca (chN L Z n Y p d) cc G fb lb (chY L Z n Y p d) F B d wr hG hcn.1 (HW.out.1.below HW.out.2.1) hcn.2
        (fun y hy => by rw [HW.out.2.1.cell (p := ⟨fb, y, none⟩) (World.block_lt_of_cell? _ _ (HF.out y hy))]; exact HF.out y hy) (fun y hy => by rw [HW.out.2.1.cell (p := ⟨lb, y, none⟩) (World.block_lt_of_cell? _ _ (HB.out y hy))]; exact HB.out y hy)
      rw [← HP.out d, ← nd_ch, ex] at C
      have HC : Hid (Calls Try.prog 106 #[.slice ca (chN L Z n Y p d) cc, .slice (some ⟨fb, 0, none⟩) G G, .slice (some ⟨lb, 0, none⟩) G G, .int .i64 d] wr fun e w' => e = .returned (.int .i64 x) ∧ w' = wr) := C
      have EX : Hid (nd L Z n Y p d = (x : Int)) := ex
      obtain ⟨gb, go, hga, hgc⟩ := HG.out
      obtain rfl := hga (by omega)
      obtain ⟨a4, c4, hg0, hr0⟩ := hgc x hx
      have HG0 : Hid (w.cell? ⟨gb, go + x, none⟩ = some (.slice a4 (L x) c4)) := hg0
      have HR4 : Hid (Row w a4 (L x) (Z x)) := hr0
      have HS : Hid (w.heap.size ≤ wr.heap.size) := HW.out.2.1.size
      clear ex C hcn hg0 hr0 hgc hga
      generalize chN L Z n Y p d = cn at *
      go_wp2_with fail
      refine HC.out.mono ?_
      rintro e w1 ⟨rfl, rfl⟩
      clear HC
      go_wp2_with (at_builtin; refine wpList_append_own _ rfl _ _ 26 rfl w.heap.size 3 i0 (.int .i64 0) 1 8 Try.underlying26 HI.out.1 HI.out.2.1 HI.out.2.2.1 HI.out.2.2.2 rfl (by decide) _ _ _ rfl (HW.out.2.2.alloc _) ⟨w1.heap.size, 0, none⟩ 1 1 [.int .i64 x] rfl rfl (cell_one_new _ _ _) (ints_oneCell .i64 [(x : Int)]) (by unfold maxLen; omega) (by omega) (by have := HS.out; simp; omega) ?_; intro v' w2 hown' hgrow _; obtain ⟨⟨a3, c3, rfl⟩, H3⟩ := leastWay_step HW.out.2.1 HW.out.2.2 hown' hgrow; have hgx : w2.cell? ⟨gb, go + x, none⟩ = some (.slice a4 (L x) c4) := (H3.out.1.cell (p := ⟨gb, go + x, none⟩) (World.block_lt_of_cell? _ _ HG0.out)).trans HG0.out; clear hown' hgrow)
      go_roundw
      case rel =>
        refine ⟨d + 1, a3, c3, a4, c4, by omega, by go_num, rfl, ?_, hid ⟨?_, H3.out.1, ?_⟩⟩
        · simp only [chN, EX.out, Int.toNat_natCast]
        · simp only [chN, chY, EX.out, Int.toNat_natCast]; exact HR4.out
        · rw [wayL_succ, EX.out]; exact H3.out.2
      case measure => simp [intOf]; omega
    · obtain rfl : d = len + 1 := by omega
      have hdz : ¬ ((len : Int) + 1) ≤ len := by omega
      go_wp2
      go_ret
      exact ⟨_, rfl, HW.out.2.1, HW.out.2.2⟩

/-- Two ways to say which nodes one may go to. -/
theorem ed_ego {G : Nat} {L : Nat → Nat} {Z : Nat → Nat → Int} : Ed G L Z = Ego G L Z := by
  funext x y
  unfold Ed Ego
  rw [has_iff]

theorem src_eq {n : Nat} {Y : Nat → Int} : Src n Y = fun x : Nat => ∃ i, i < n ∧ Y i = (x : Int) := by
  funext x
  unfold Src
  rw [has_iff]

/-- What distances and nearest tell, together. -/
theorem near_of {G : Nat} {L : Nat → Nat} {Z : Nat → Nat → Int} {n : Nat} {Y : Nat → Int} {F : Nat → Int} {O : List Int} {T : Nat → Bool} {len : Int} (hD : Dist G (Src n Y) (Ed G L Z) F O) (hZ : ∀ x, x < G → ∀ i, i < L x → 0 ≤ Z x i ∧ Z x i < G) (hY : ∀ i, i < n → 0 ≤ Y i ∧ Y i < G)
    {i : Nat} (hi : i < O.length) (hl : len = F (O.getD i 0).toNat) (hT : T (O.getD i 0).toNat = true) (hj : ∀ j, j < i → T (O.getD j 0).toNat = false) : ∃ m : Nat, len = m ∧ Near G L Z T n Y F m := by
  obtain ⟨x, hx, ex⟩ := hD.inO _ (getD_mem hi)
  rw [ex, Int.toNat_natCast] at hl hT
  have hm : (x : Int) ∈ O := by rw [← ex]; exact getD_mem hi
  have hF := (hD.memF x hx).1 hm
  have hr := hD.rng x hx hF
  refine ⟨len.toNat, by omega, hZ, hY, fun y hy hFy => ⟨(hD.rng y hy hFy).1, (hD.rng y hy hFy).2, ?_⟩, fun k y hy hw => hD.all k y hy ?_, ⟨x, hx, hT, by omega⟩, fun t ht hTt hFt => ?_⟩
  · rw [← src_eq, ← ed_ego]; exact hD.snd y hy hFy
  · rw [src_eq, ed_ego]; exact hw
  · obtain ⟨j, hjl, ej⟩ := List.getElem_of_mem ((hD.memF t ht).2 hFt)
    have ej' : O.getD j 0 = (t : Int) := by rw [List.getD_eq_getElem?_getD, List.getElem?_eq_getElem hjl, ej]; rfl
    by_cases hlt : j < i
    · have := hj j hlt
      rw [ej', Int.toNat_natCast, hTt] at this
      cases this
    · by_cases e : j = i
      · subst e
        rw [ej'] at ex
        have : t = x := by omega
        subst this
        omega
      · have hp := List.pairwise_iff_getElem.1 hD.srt i j hi hjl (by omega)
        have e1 : O[i] = (x : Int) := by rw [List.getD_eq_getElem?_getD, List.getElem?_eq_getElem hi] at ex; exact ex
        rw [e1, ej, Int.toNat_natCast, Int.toNat_natCast] at hp
        omega

/-- Which nodes stand on a shortest way. -/
def onWay (G : Nat) (L : Nat → Nat) (Z : Nat → Nat → Int) (T : Nat → Bool) (F : Nat → Int) (len x : Nat) : Bool := decide (F x ≤ len ∧ lev L Z T G x = (len : Int) + 1 - F x)

theorem Near.leads {G : Nat} {L : Nat → Nat} {Z : Nat → Nat → Int} {n : Nat} {Y : Nat → Int} {F : Nat → Int} {O : List Int} {T : Nat → Bool} {len : Nat} (h : Near G L Z T n Y F len) (hmem : ∀ x, x < G → ((x : Int) ∈ O ↔ F x ≠ -1)) : Leads G L Z T F O len (onWay G L Z T F len) := by
  have hl := h.lenG
  refine ⟨fun x hx hO e => ?_, fun x hx hO hlt => ?_, fun x hx hO hlt => ?_⟩
  · have hF := (hmem x hx).1 hO
    have := h.on hx hF (m := 0) (by omega)
    rw [Bool.eq_iff_iff]
    unfold onWay
    rw [decide_eq_true_eq]
    constructor
    · rintro ⟨_, h2⟩
      exact this.1 (by rw [h2]; omega)
    · intro hT
      exact ⟨by omega, by rw [this.2 hT]; omega⟩
  · have hF := (hmem x hx).1 hO
    have h0 := (h.snd x hx hF).1
    obtain ⟨m, hm⟩ : ∃ m : Nat, F x + (m + 1 : Nat) = len := ⟨((len : Int) - F x - 1).toNat, by omega⟩
    have hon := h.on hx hF hm
    have hstep : ∀ i, i < L x → (Z x i).toNat < G ∧ F (Z x i).toNat ≠ -1 ∧ F (Z x i).toNat ≤ F x + 1 ∧ Ego G L Z x (Z x i).toNat := fun i hi => by
      have hz := h.hZ x hx i hi
      have he : Ego G L Z x (Z x i).toNat := ⟨hx, i, hi, by omega⟩
      obtain ⟨a, b, c⟩ := h.step hx hF he
      exact ⟨a, b, c, he⟩
    rw [Bool.eq_iff_iff, bne_iff_ne]
    constructor
    · intro hb
      obtain ⟨i, hi, _, hp⟩ := best_some (L x) hb
      obtain ⟨hy, hFy, _, he⟩ := hstep i hi
      simp only [Bool.and_eq_true, decide_eq_true_eq, onWay] at hp
      unfold onWay
      rw [decide_eq_true_eq]
      have hby := (h.on hy hFy (m := m) (by omega)).1 (by rw [hp.1.2]; omega)
      exact ⟨by omega, by rw [hon.2 ⟨_, he, hby⟩]; omega⟩
    · intro hx1 hb
      unfold onWay at hx1
      rw [decide_eq_true_eq] at hx1
      obtain ⟨y, hxy, hby⟩ := hon.1 (by rw [hx1.2]; omega)
      obtain ⟨_, i, hi, ei⟩ := hxy
      have hyy : (Z x i).toNat = y := by omega
      obtain ⟨hy, hFy, hFy2, _⟩ := hstep i hi
      rw [hyy] at hy hFy hFy2
      have hfar := h.far hy hFy hby
      have hly := (h.on hy hFy (m := m) (by omega)).2 hby
      have := best_none (L x) (fun i hi => (h.hZ x hx i hi).1) hb i hi
      rw [hyy] at this
      simp only [onWay] at this
      have hA : F y ≤ len ∧ lev L Z T G y = (len : Int) + 1 - F y := ⟨by omega, by rw [hly]; omega⟩
      have hB : F y = F x + 1 := by omega
      rw [decide_eq_true hA, decide_eq_true hB] at this
      cases this
  · unfold onWay
    rw [decide_eq_false_iff_not]
    omega

def errW (G : Nat) (L : Nat → Nat) (Z : Nat → Nat → Int) (n : Nat) (Y : Nat → Int) (tn : Nat) : Int := if errF G L Z n Y = 0 then (if tn = G then 0 else 1) else errF G L Z n Y

set_option maxHeartbeats 400000 in
theorem way_bad (ga : Option Addr) (G gc : Nat) (L : Nat → Nat) (Z : Nat → Nat → Int) (a : Option Addr) (n c : Nat) (Y : Nat → Int) (ta : Option Addr) (tn tc : Nat) (w : World) (hL : ∀ r, r < G → L r ≤ 140737488355328) (hn : n ≤ 140737488355328) (h : Gr w ga G L Z) (hrow : Row w a n Y)
    (E : Int) (hE : errW G L Z n Y tn = E) (h0 : E ≠ 0) :
    Calls Try.prog 49 #[.slice ga G gc, .slice a n c, .slice ta tn tc] w fun e w' => e = .returned (.tuple #[.slice none 0 0, .bool false, .int .i64 E]) ∧ w' = w := by
  have C : Hid (Calls Try.prog 42 #[.slice ga G gc, .slice a n c] w fun e w' => e = .returned (.int .i64 (errF G L Z n Y)) ∧ w' = w) := checkFrom_any ga G gc L Z a n c Y w hL hn h hrow
  unfold errW at hE
  by_cases hF : errF G L Z n Y = 0
  · rw [hF] at C
    rw [if_pos hF] at hE
    have htn : tn ≠ G := fun e => h0 (by rw [← hE, if_pos e])
    obtain rfl : E = 1 := by rw [← hE, if_neg htn]
    have hz : ((tn : Int) != G) = true := by simp; omega
    clear hE h0 hF htn h hL hrow
    go_enter Try.func49, Try.ntmps49
    go_wp2_with fail
    refine C.out.mono ?_
    rintro e w' ⟨rfl, rfl⟩
    go_wp2
    go_ret3
    exact ⟨rfl, rfl⟩
  · rw [if_neg hF] at hE
    rw [hE] at C
    have hz : (E != 0) = true := by rw [bne_iff_ne]; exact h0
    clear hE h0 hF h hL hrow
    go_enter Try.func49, Try.ntmps49
    go_wp2_with fail
    refine C.out.mono ?_
    rintro e w' ⟨rfl, rfl⟩
    go_wp2
    go_ret3
    exact ⟨rfl, rfl⟩

theorem errW_zero {G : Nat} {L : Nat → Nat} {Z : Nat → Nat → Int} {n : Nat} {Y : Nat → Int} {tn : Nat} (h : errW G L Z n Y tn = 0) : errF G L Z n Y = 0 ∧ tn = G := by
  unfold errW at h
  by_cases hF : errF G L Z n Y = 0
  · rw [if_pos hF] at h
    by_cases e : tn = G
    · exact ⟨hF, e⟩
    · rw [if_neg e] at h; cases h
  · rw [if_neg hF] at h
    exact absurd h hF

/-- What Way answers. -/
def WayIs (G : Nat) (L : Nat → Nat) (Z : Nat → Nat → Int) (T : Nat → Bool) (n : Nat) (Y : Nat → Int) (w w' : World) (v : Value) (is : Bool) : Prop :=
  (is = false ∧ v = .slice none 0 0 ∧ ∀ x, x < G → T x = true → ¬ Comes G L Z n Y x) ∨
  (is = true ∧ ∃ (F : Nat → Int) (len : Nat), Near G L Z T n Y F len ∧ w'.ownsRow w.heap.size 3 1 v (len + 1) (vals (wayL L Z n Y (byLev G L Z T len) (len + 1))))

set_option maxHeartbeats 1000000 in
theorem way_ok (ga : Option Addr) (G gc : Nat) (L : Nat → Nat) (Z : Nat → Nat → Int) (a : Option Addr) (n c : Nat) (Y : Nat → Int) (ta : Option Addr) (tc : Nat) (T : Nat → Bool) (w : World) (hL : ∀ r, r < G → L r ≤ 140737488355328) (hn : n ≤ 140737488355328) (h : Gr w ga G L Z) (hrow : Row w a n Y)
    (ht : Rowb w ta G T) (h0 : errF G L Z n Y = 0) :
    Calls Try.prog 49 #[.slice ga G gc, .slice a n c, .slice ta G tc] w fun e w' => ∃ v is, e = .returned (.tuple #[v, .bool is, .int .i64 0]) ∧ Below w.heap.size w w' ∧ WayIs G L Z T n Y w w' v is := by
  have C33 : Hid (Calls Try.prog 42 #[.slice ga G gc, .slice a n c] w fun e w' => e = .returned (.int .i64 0) ∧ w' = w) := by
    have := checkFrom_any ga G gc L Z a n c Y w hL hn h hrow
    rwa [h0] at this
  obtain ⟨hg, hin⟩ := errF_zero h0
  obtain ⟨hG, hZ⟩ := errG_zero hg
  have C34 : Hid (Calls Try.prog 43 #[.slice ga G gc, .slice a n c] w fun e w' => ∃ F O v, e = .returned (.tuple #[.slice (some ⟨w.heap.size + 1 + 1, 0, none⟩) G G, v]) ∧ Dist G (Src n Y) (Ed G L Z) F O ∧ Bf w w' G F O v) := dist_any ga G gc L Z a n c Y w hL hn h hg hrow hin
  have HL : Hid (∀ r, r < G → L r ≤ 140737488355328) := hL
  have HZ : Hid (∀ x, x < G → ∀ i, i < L x → 0 ≤ Z x i ∧ Z x i < G) := hZ
  have HY : Hid (∀ i, i < n → 0 ≤ Y i ∧ Y i < G) := hin
  have HG : Hid (Gr w ga G L Z) := h
  have HA : Hid (Row w a n Y) := hrow
  have HT : Hid (Rowb w ta G T) := ht
  clear h hrow hL hg hin h0 hZ ht
  go_enter Try.func49, Try.ntmps49
  go_wp2_with fail
  refine C33.out.mono ?_
  rintro e w' ⟨rfl, rfl⟩
  go_wp2_with fail
  refine C34.out.mono ?_
  rintro e w1 ⟨F, O, v, rfl, hD, hB⟩
  have HD : Hid (Dist G (Src n Y) (Ed G L Z) F O) := hD
  have HB : Hid (Bf w' w1 G F O v) := hB
  obtain ⟨a2, c2, hv, hrow2⟩ := owns_row hB.own
  subst hv
  have HR2 : Hid (Row w1 a2 O.length (fun i => O.getD i 0)) := hrow2
  have hol := hD.len
  clear hD hB C33 C34 hrow2
  go_wp2_with fail
  refine (nearest_any a2 O.length c2 G (w'.heap.size + 1 + 1) ta tc (fun i => O.getD i 0) F T _ hG (by omega) HR2.out (fun i hi => by obtain ⟨x, hx, e⟩ := HD.out.inO _ (getD_mem hi); rw [e]; omega) (fun x hx => HB.out.far.cell hx) (HT.out.below HB.out.below)).mono ?_
  rintro e w2 ⟨⟨r, rfl, hr⟩, rfl⟩
  rcases hr with ⟨rfl, hno⟩ | ⟨i, hi, hri, hTi, hj⟩
  · have HN : Hid (∀ x, x < G → T x = true → ¬ Comes G L Z n Y x) := fun x hx hT ⟨k, hk⟩ => by
      have hF := (HD.out.all k x hx hk).1
      obtain ⟨j, hj, ej⟩ := List.getElem_of_mem ((HD.out.memF x hx).2 hF)
      have ej' : O.getD j 0 = (x : Int) := by rw [List.getD_eq_getElem?_getD, List.getElem?_eq_getElem hj, ej]; rfl
      have := hno j hj
      simp only [ej', Int.toNat_natCast] at this
      rw [hT] at this
      cases this
    clear hno
    go_wp2
    go_ret3
    exact ⟨_, _, rfl, HB.out.below, Or.inl ⟨rfl, rfl, HN.out⟩⟩
  · obtain ⟨len, hlen, hN⟩ := near_of HD.out HZ.out HY.out hi hri hTi hj
    subst hlen
    have HN : Hid (Near G L Z T n Y F len) := hN
    have hlG := hN.lenG
    have hz : ((len : Int) == -1) = false := by rw [beq_eq_false_iff_ne]; omega
    clear hri hTi hj hN hi
    go_wp2_with fail
    refine (leading_any ga G gc L Z a2 c2 (w'.heap.size + 1 + 1) ta tc O F T len (onWay G L Z T F len) _ hG HL.out HZ.out (HG.out.below HB.out.below) HR2.out hol HD.out.inO HD.out.memF HD.out.rng HD.out.srt (fun x hx => HB.out.far.cell hx) (HT.out.below HB.out.below) (HN.out.leads HD.out.memF)).mono ?_
    rintro e w3 ⟨rfl, hbel3, hrow3⟩
    have HW3 : Hid (Below w2.heap.size w2 w3 ∧ w3.rowIs w2.heap.size 4 G (fun x => .bool (ldj O (onWay G L Z T F len) 0 x))) := ⟨hbel3, hrow3⟩
    have HW : Hid (Below w'.heap.size w' w3) := HB.out.below.trans (hbel3.mono HB.out.below.size)
    clear hbel3 hrow3
    have HP : Hid (∀ d, d ≤ len → nd L Z n Y (fun d x => ldj O (onWay G L Z T F len) 0 x && decide (F x = (d : Nat))) d = nd L Z n Y (byLev G L Z T len) d) := by
      have e : (fun d x => ldj O (onWay G L Z T F len) 0 x && decide (F x = (d : Nat)) : Nat → Nat → Bool) = fun (d x : Nat) => (decide ((x : Int) ∈ O) && byFar G L Z T F len d x) := by
        funext d x
        simp [ldj, byFar, onWay, Bool.and_assoc]
      rw [e]
      have same : ∀ d, d ≤ len → nd L Z n Y (fun (d x : Nat) => (decide ((x : Int) ∈ O) && byFar G L Z T F len d x)) d = nd L Z n Y (byFar G L Z T F len) d := by
        intro d
        induction d with
        | zero =>
          intro _
          refine best_congr n (fun i hi => ?_)
          have hy := HY.out i hi
          have hF := (HN.out.all 0 (Y i).toNat (by omega) ⟨i, hi, by omega⟩).1
          show (decide (((Y i).toNat : Int) ∈ O) && byFar G L Z T F len 0 (Y i).toNat) = byFar G L Z T F len 0 (Y i).toNat
          rw [decide_eq_true ((HD.out.memF _ (by omega)).2 hF), Bool.true_and]
        | succ d ih =>
          intro hd
          obtain ⟨e1, x, ex, hx, hFx, _⟩ := HN.out.nodes d (by omega)
          show best _ (Z (nd L Z n Y _ d).toNat) (L (nd L Z n Y _ d).toNat) = best _ (Z (nd L Z n Y _ d).toNat) (L (nd L Z n Y _ d).toNat)
          rw [ih (by omega), e1, ex, Int.toNat_natCast]
          refine best_congr (L x) (fun i hi => ?_)
          have hz := HZ.out x hx i hi
          have hF := (HN.out.step hx (by omega) ⟨hx, i, hi, show Z x i = ((Z x i).toNat : Int) by omega⟩).2.1
          show (decide (((Z x i).toNat : Int) ∈ O) && byFar G L Z T F len (d + 1) (Z x i).toNat) = byFar G L Z T F len (d + 1) (Z x i).toNat
          rw [decide_eq_true ((HD.out.memF _ (by omega)).2 hF), Bool.true_and]
      exact hid (fun d hd => (same d hd).trans (HN.out.nodes d hd).1)
    go_wp2_with fail
    refine (leastWay_any ga G gc L Z a n c Y (w'.heap.size + 1 + 1) w2.heap.size F (ldj O (onWay G L Z T F len) 0) len _ hG hlG HL.out hn HZ.out HY.out (HG.out.below HW.out) (HA.out.below HW.out)
      (fun x hx => by rw [HW3.out.1.cell (p := ⟨w'.heap.size + 1 + 1, x, none⟩) HB.out.far.lt]; exact HB.out.far.cell hx) (fun x hx => HW3.out.2.cell hx)
      (fun d hd => by obtain ⟨_, x, ex, hx, _⟩ := HN.out.nodes d hd; exact ⟨x, by rw [HP.out d hd]; exact ex, hx⟩)).mono ?_
    rintro e w4 ⟨v4, rfl, hbel4, hown4⟩
    have HW4 : Hid (Below w'.heap.size w' w4 ∧ w4.ownsRow w'.heap.size 3 1 v4 (len + 1) (vals (wayL L Z n Y (byLev G L Z T len) (len + 1)))) := by
      refine ⟨HW.out.trans (hbel4.mono HW.out.size), ?_⟩
      have e : wayL L Z n Y (fun d x => ldj O (onWay G L Z T F len) 0 x && decide (F x = (d : Nat))) (len + 1) = wayL L Z n Y (byLev G L Z T len) (len + 1) := by
        unfold wayL
        exact List.map_congr_left (fun d hd => HP.out d (by have := List.mem_range.1 hd; omega))
      rw [← e]
      refine ⟨hown4.1, hown4.2.imp id ?_⟩
      rintro ⟨g, cap, cur, e1, hb, rest⟩
      exact ⟨g, cap, cur, e1, Nat.le_trans HW.out.size hb, rest⟩
    clear hbel4 hown4
    go_wp2
    go_ret3
    exact ⟨_, _, rfl, HW4.out.1, Or.inr ⟨rfl, F, len, HN.out, HW4.out.2⟩⟩

end Go.Proofs.Ytjenkhphngiphaa

namespace Go.Proofs.Ytjenkhphngiphaa
open Go.RowKit

set_option maxHeartbeats 400000 in
theorem endsWith_any (a : Option Addr) (n c : Nat) (Z : Nat → Int) (x : Int) (w : World) (hn : n ≤ 140737488355328) (h : Row w a n Z) :
    Calls Try.prog 83 #[.slice a n c, .int .i64 x] w fun e w' => e = .returned (.bool (decide (0 < n ∧ Z (n - 1) = x))) ∧ w' = w := by
  obtain ⟨b, o, ha, hc⟩ := h
  by_cases h0 : 0 < n
  · obtain rfl := ha h0
    have hcl := hc (n - 1) (by omega)
    have hz : (0 : Int) < n := by omega
    obtain ⟨k, rfl⟩ : ∃ k, n = k + 1 := ⟨n - 1, by omega⟩
    simp only [Nat.add_sub_cancel] at hcl ⊢
    clear hc ha
    go_enter Try.func83, Try.ntmps83
    go_wp2
    go_ret
    refine ⟨ret_bool ?_, rfl⟩
    rw [Bool.eq_iff_iff]; simp
  · have hz : ¬ (0 : Int) < n := by omega
    obtain rfl : n = 0 := by omega
    go_enter Try.func83, Try.ntmps83
    go_wp2
    go_ret
    exact ⟨ret_bool (by simp), rfl⟩

set_option maxHeartbeats 1000000 in
theorem turn_ok (ga : Option Addr) (G gc : Nat) (L : Nat → Nat) (Z : Nat → Nat → Int) (w : World) (hL : ∀ r, r < G → L r ≤ 140737488355328) (h : Gr w ga G L Z) (h0 : errG G L Z = 0) :
    Calls Try.prog 47 #[.slice ga G gc] w fun e w' => e = .returned (.tuple #[.slice (some ⟨w.heap.size, 0, none⟩) G G, .int .i64 0]) ∧ ∃ V, Fam w w' G (tl L Z G) V := by
  have C : Hid (Calls Try.prog 67 #[.slice ga G gc] w fun e w' => e = .returned (.int .i64 0) ∧ w' = w) := check_ok ga G gc L Z w hL h h0
  obtain ⟨hG, hall⟩ := errG_zero h0
  have HA : Hid (∀ r, r < G → ∀ i, i < L r → 0 ≤ Z r i ∧ Z r i < G) := hall
  have HL : Hid (∀ r, r < G → L r ≤ 140737488355328) := hL
  obtain ⟨b, o, ha, hc⟩ := h
  have HC : Hid (∀ r, r < G → ∃ a c, w.cell? ⟨b, o + r, none⟩ = some (.slice a (L r) c) ∧ Row w a (L r) (Z r)) := hc
  clear hc hL hall h0
  have hmk := run_make_row' (P := Try.prog) 32 26 (.slice none 0 0) 24 Try.underlying32 Try.info26 rfl .i64 .i64 G (by omega) (by omega)
  obtain ⟨i0, hi, hz0, hz1, hz2⟩ := info_parts Try.info3
  have HI : Hid (Try.prog.info? 3 = some i0 ∧ i0.zero = some (.int .i64 0) ∧ i0.size = 1 ∧ i0.bytes = 8) := ⟨hi, hz0, hz1, hz2⟩
  clear hi hz0 hz1 hz2
  go_enter Try.func47, Try.ntmps47
  go_wp2_with fail
  refine C.out.mono ?_
  rintro e w' ⟨rfl, rfl⟩
  go_wp2
  clear hmk
  go_loopw [20] (fun i wr => ∃ r : Nat, r ≤ G ∧ i = .int .i64 r ∧ ∃ V, Fam w' wr G (tl L Z r) V) (fun i _ => G - (intOf i).toNat)
  case atStart => exact ⟨0, Nat.zero_le _, rfl, _, fam_start w' G _ (fun j _ => rfl)⟩
  case round =>
    obtain ⟨r, hr, rfl, V, hF⟩ := hrel
    by_cases hlt : r < G
    · obtain rfl := ha (by omega)
      obtain ⟨a, c, hck0, hrow0⟩ := HC.out r hlt
      have hck : wr.cell? ⟨b, o + r, none⟩ = some (.slice a (L r) c) := by
        rw [hF.below.cell (p := ⟨b, o + r, none⟩) (World.block_lt_of_cell? _ _ hck0)]; exact hck0
      have HR : Hid (Row w' a (L r) (Z r)) := hrow0
      have HF : Hid (Fam w' wr G (tl L Z r) V) := hF
      have hLr := HL.out r hlt
      clear hrow0 hck0 hF ha
      go_wp2
      go_loopw [27] (fun i wi => ∃ k : Nat, k ≤ L r ∧ i = .int .i64 k ∧ ∃ V, Fam w' wi G (tli L Z r k) V) (fun i _ => L r - (intOf i).toNat)
      case atStart => exact ⟨0, Nat.zero_le _, rfl, V, HF.out.congr (fun j _ => (tli_zero L Z r j).symm)⟩
      case round =>
        obtain ⟨k, hk, rfl, V', hF⟩ := hrel
        by_cases hlk : k < L r
        · obtain ⟨b', o', ha', hc'⟩ := HR.out
          obtain rfl := ha' (by omega)
          obtain ⟨t, ht⟩ : ∃ t : Nat, Z r k = t := ⟨(Z r k).toNat, by have := HA.out r hlt k hlk; omega⟩
          have htG : t < G := by have := HA.out r hlt k hlk; omega
          have htz : (t : Int) < G := by omega
          have hcell : wr.cell? ⟨b', o' + k, none⟩ = some (.int .i64 t) := by
            rw [hF.below.cell (p := ⟨b', o' + k, none⟩) (World.block_lt_of_cell? _ _ (hc' k hlk)), hc' k hlk, ht]
          have HT : Hid (Z r k = t) := ht
          clear hck ht hc' ha' HF
          obtain ⟨a2, c2, hv, hrow⟩ := owns_row (hF.own t htG)
          have hown := hF.own t htG
          have htop := hF.top.cell htG
          rw [hv] at hown htop
          have hlen := tli_le L Z r k t
          have CE := endsWith_any a2 (tli L Z r k t).length c2 _ (r : Int) wr (by omega) hrow
          rw [tli_last] at CE
          have HE : Hid (Calls Try.prog 83 #[.slice a2 (tli L Z r k t).length c2, .int .i64 r] wr fun e w' => e = .returned (.bool (has k (Z r) t)) ∧ w' = wr) := CE
          have HF : Hid (Fam w' wr G (tli L Z r k) V') := hF
          have HV : Hid (V' t = .slice a2 (tli L Z r k t).length c2) := hv
          have HO : Hid (wr.ownsRow (w'.heap.size + 1) 3 1 (.slice a2 (tli L Z r k t).length c2) (tli L Z r k t).length (vals (tli L Z r k t))) := hown
          have hsize := hF.size
          clear CE hrow hF hv hown
          generalize hn : (tli L Z r k t).length = n at *
          have HN : Hid ((tli L Z r k t).length = n) := hn
          clear hn
          cases hb : has k (Z r) t
          · have HB : Hid (has k (Z r) t = false) := hb
            rw [hb] at HE
            clear hb
            go_wp2_with fail
            refine HE.out.mono ?_
            rintro e w1 ⟨rfl, rfl⟩
            go_wp2_with (at_builtin; refine wpList_append_own_at _ rfl _ _ 26 rfl (w'.heap.size + 1) 3 i0 (.int .i64 0) 1 8 Try.underlying26 HI.out.1 HI.out.2.1 HI.out.2.2.1 HI.out.2.2.2 rfl (by decide) _ _ _ rfl (HO.out.alloc _) ⟨w1.heap.size, 0, none⟩ 1 1 [.int .i64 r] rfl rfl (cell_one_new _ _ _) (ints_oneCell .i64 [(r : Int)]) (by unfold maxLen; omega) (by omega) (by simp; omega) ?_; intro v' w2 hown' hgrow hnil hloc; obtain ⟨⟨a3, c3, rfl⟩, g1, g2, G3⟩ := Fam.step' HF.out htG HN.out HV.out hown' hgrow hloc; clear hown' hgrow hnil hloc)
            go_roundw
            case rel => exact ⟨k + 1, by omega, by go_num, _, G3.out.congr (fun j _ => tli_new L Z r k t HT.out HB.out j)⟩
            case measure => simp [intOf]; omega
          · have HB : Hid (has k (Z r) t = true) := hb
            rw [hb] at HE
            clear hb
            go_wp2_with fail
            refine HE.out.mono ?_
            rintro e w1 ⟨rfl, rfl⟩
            go_wp2
            go_roundw
            case rel => exact ⟨k + 1, by omega, by go_num, V', HF.out.congr (fun j _ => tli_hit L Z r k t HT.out HB.out j)⟩
            case measure => simp [intOf]; omega
        · go_wp2
          obtain rfl : k = L r := by omega
          go_roundw
          case rel => exact ⟨r + 1, by omega, by go_num, V', hF.congr (fun j _ => tli_full L Z r j)⟩
          case measure => simp [intOf]; omega
    · go_wp2
      obtain rfl : r = G := by omega
      go_ret2
      exact ⟨rfl, V, hF⟩

end Go.Proofs.Ytjenkhphngiphaa

namespace Go.Proofs.Ytjenkhphngiphaa
open Go.RowKit

def RchG (E : Nat → Nat → Prop) (a b : Nat) : Prop := ∃ k, Wk (fun x => x = a) E k b

section
variable {E : Nat → Nat → Prop}
theorem RchG.refl (a : Nat) : RchG E a a := ⟨0, rfl⟩
theorem RchG.on {a b c : Nat} (h : RchG E a b) (e : E b c) : RchG E a c := by obtain ⟨k, hk⟩ := h; exact ⟨k + 1, b, hk, e⟩
theorem RchG.trans {a b c : Nat} (h : RchG E a b) (h' : RchG E b c) : RchG E a c := by
  obtain ⟨k, hk⟩ := h'
  have : ∀ k c, Wk (fun x => x = b) E k c → RchG E a c := by
    intro k
    induction k with
    | zero => intro c hc; have : c = b := hc; subst this; exact h
    | succ k ih =>
      intro c hc
      obtain ⟨y, hy, e⟩ := hc
      exact (ih y hy).on e
  exact this k c hk
theorem RchG.edge {a b : Nat} (e : E a b) : RchG E a b := (RchG.refl a).on e
/-- What goings never leave, no way leaves. -/
theorem RchG.stay {P : Nat → Prop} (hP : ∀ x y, P x → E x y → P y) {a b : Nat} (h : RchG E a b) (ha : P a) : P b := by
  obtain ⟨k, hk⟩ := h
  have : ∀ k b, Wk (fun x => x = a) E k b → P b := by
    intro k
    induction k with
    | zero => intro b hb; have : b = a := hb; subst this; exact ha
    | succ k ih =>
      intro b hb
      obtain ⟨y, hy, e⟩ := hb
      exact hP y b (ih y hy) e
  exact this k b hk
end

theorem comes_one {G : Nat} {L : Nat → Nat} {Z : Nat → Nat → Int} {a b : Nat} : Comes G L Z 1 (fun _ => (a : Int)) b ↔ RchG (Ego G L Z) a b := by
  unfold Comes RchG
  rw [ed_ego, src_eq]
  have : (fun x : Nat => ∃ i : Nat, i < 1 ∧ (a : Int) = (x : Int)) = fun x => x = a := by
    funext x
    rw [eq_iff_iff]
    constructor
    · rintro ⟨_, _, e⟩; omega
    · intro e; exact ⟨0, by omega, by omega⟩
  rw [this]

/-- The graph turned round. -/
def tL (L : Nat → Nat) (Z : Nat → Nat → Int) (G j : Nat) : Nat := (tl L Z G j).length
def tZ (L : Nat → Nat) (Z : Nat → Nat → Int) (G j i : Nat) : Int := (tl L Z G j).getD i 0

section
variable {G : Nat} {L : Nat → Nat} {Z : Nat → Nat → Int}

theorem tl_mem (j : Nat) (x : Int) : x ∈ tl L Z G j ↔ ∃ q : Nat, q < G ∧ has (L q) (Z q) j = true ∧ x = q := by
  unfold tl
  rw [List.mem_map]
  constructor
  · rintro ⟨q, hq, rfl⟩
    obtain ⟨h1, h2⟩ := List.mem_filter.1 hq
    exact ⟨q, List.mem_range.1 h1, h2, rfl⟩
  · rintro ⟨q, hq, h, rfl⟩
    exact ⟨q, List.mem_filter.2 ⟨List.mem_range.2 hq, h⟩, rfl⟩

theorem tZ_mem (j i : Nat) (hi : i < tL L Z G j) : tZ L Z G j i ∈ tl L Z G j := by
  unfold tZ
  rw [List.getD_eq_getElem?_getD, List.getElem?_eq_getElem hi]
  exact List.getElem_mem hi

theorem has_turn (j q : Nat) : has (tL L Z G j) (tZ L Z G j) q = true ↔ q < G ∧ has (L q) (Z q) j = true := by
  rw [has_iff]
  constructor
  · rintro ⟨i, hi, e⟩
    have h := tZ_mem j i hi
    rw [e] at h
    obtain ⟨q', h1, h2, e'⟩ := (tl_mem j _).1 h
    have : q' = q := by omega
    subst this
    exact ⟨h1, h2⟩
  · rintro ⟨h1, h2⟩
    obtain ⟨i, hi, e⟩ := List.mem_iff_getElem.1 ((tl_mem (L := L) (Z := Z) (G := G) j q).2 ⟨q, h1, h2, rfl⟩)
    refine ⟨i, hi, ?_⟩
    unfold tZ
    rw [List.getD_eq_getElem?_getD, List.getElem?_eq_getElem hi]
    exact e

theorem turn_errG (h : errG G L Z = 0) : errG G (tL L Z G) (tZ L Z G) = 0 := by
  have hG := (errG_zero h).1
  refine errG_ok (by omega) ?_
  unfold okG
  rw [decide_eq_true_eq]
  intro r _
  refine allIn_yes (fun i hi => ?_)
  obtain ⟨q, h1, _, e⟩ := (tl_mem r _).1 (tZ_mem r i hi)
  omega

theorem ego_turn (h : errG G L Z = 0) (x y : Nat) : Ego G (tL L Z G) (tZ L Z G) x y ↔ Ego G L Z y x := by
  rw [← ed_ego, ← ed_ego]
  unfold Ed
  rw [has_turn]
  constructor
  · rintro ⟨_, h1, h2⟩; exact ⟨h1, h2⟩
  · rintro ⟨h1, h2⟩
    obtain ⟨i, hi, e⟩ := has_iff.1 h2
    have := (errG_zero h).2 y h1 i hi
    exact ⟨by omega, h1, h2⟩

theorem rch_back {E E' : Nat → Nat → Prop} (he : ∀ x y, E' x y → E y x) {x y : Nat} (h : RchG E' x y) : RchG E y x :=
  h.stay (P := fun z => RchG E z x) (fun _ _ hz e => (RchG.edge (he _ _ e)).trans hz) (RchG.refl x)

theorem rch_turn (h : errG G L Z = 0) (x y : Nat) : RchG (Ego G (tL L Z G) (tZ L Z G)) x y ↔ RchG (Ego G L Z) y x :=
  ⟨rch_back (fun a b e => (ego_turn h a b).1 e), rch_back (fun a b e => (ego_turn h b a).2 e)⟩
end

theorem Near.same {G : Nat} {L : Nat → Nat} {Z : Nat → Nat → Int} {T : Nat → Bool} {n : Nat} {Y : Nat → Int} {F F' : Nat → Int} {len len' : Nat} (h : Near G L Z T n Y F len) (h' : Near G L Z T n Y F' len') : len = len' := by
  have one : ∀ {F F' : Nat → Int} {len len' : Nat}, Near G L Z T n Y F len → Near G L Z T n Y F' len' → len' ≤ len := fun {F F' len len'} h h' => by
    obtain ⟨t, ht, hT, hF⟩ := h.tgt
    obtain ⟨h0, _, hw⟩ := h.snd t ht (by omega)
    obtain ⟨h1, h2⟩ := h'.all _ t ht hw
    have := h'.min t ht hT h1
    omega
  have a := one h h'
  have b := one h' h
  omega

theorem Near.comes {G : Nat} {L : Nat → Nat} {Z : Nat → Nat → Int} {T : Nat → Bool} {n : Nat} {Y : Nat → Int} {F : Nat → Int} {len : Nat} (h : Near G L Z T n Y F len) : ∃ t, t < G ∧ T t = true ∧ Comes G L Z n Y t := by
  obtain ⟨t, ht, hT, hF⟩ := h.tgt
  obtain ⟨_, _, hw⟩ := h.snd t ht (by omega)
  exact ⟨t, ht, hT, _, by rw [src_eq, ed_ego]; exact hw⟩

theorem WayIs.either {G : Nat} {L : Nat → Nat} {Z : Nat → Nat → Int} {T : Nat → Bool} {n : Nat} {Y : Nat → Int} {w w' : World} {v : Value} {is : Bool} (h : WayIs G L Z T n Y w w' v is) : (∀ x, x < G → T x = true → ¬ Comes G L Z n Y x) ∨ ∃ (F : Nat → Int) (len : Nat), Near G L Z T n Y F len := by
  rcases h with ⟨_, _, h⟩ | ⟨_, F, len, h, _⟩
  · exact Or.inl h
  · exact Or.inr ⟨F, len, h⟩

/-- What a way is in memory: a slice that holds just the nodes of the way. -/
theorem WayIs.row {G : Nat} {L : Nat → Nat} {Z : Nat → Nat → Int} {T : Nat → Bool} {n : Nat} {Y : Nat → Int} {w w' : World} {v : Value} {is : Bool} (h : WayIs G L Z T n Y w w' v is) : ∃ (a : Option Addr) (k c : Nat) (R : Nat → Int), v = .slice a k c ∧ Row w' a k R ∧
    ((is = false ∧ k = 0 ∧ ∀ x, x < G → T x = true → ¬ Comes G L Z n Y x) ∨ (is = true ∧ ∃ (F : Nat → Int) (len : Nat), Near G L Z T n Y F len ∧ k = len + 1 ∧ ∀ i, i < len + 1 → R i = nd L Z n Y (byLev G L Z T len) i)) := by
  rcases h with ⟨h1, rfl, h2⟩ | ⟨h1, F, len, h2, h3⟩
  · exact ⟨none, 0, 0, fun _ => 0, rfl, row_zero _ _ _, Or.inl ⟨h1, rfl, h2⟩⟩
  · have hl := wayL_len L Z n Y (byLev G L Z T len) (len + 1)
    obtain ⟨a, c, e, hr⟩ := owns_row (l := wayL L Z n Y (byLev G L Z T len) (len + 1)) (by rw [hl]; exact h3)
    rw [hl] at e hr
    refine ⟨a, len + 1, c, _, e, hr, Or.inr ⟨h1, F, len, h2, rfl, fun i hi => ?_⟩⟩
    simp [wayL, hi]

end Go.Proofs.Ytjenkhphngiphaa
