/- The document's True: its parts. -/
import Derived.Test.YtejombhfkobcbaaDoorHldF
namespace Go.Proofs.YtejombhfkobcbaaDoor
open Go.RowKit

/-- f holds at q places from i on. -/
def alB (f : Nat → Bool) (i : Nat) : Nat → Bool
  | 0 => true
  | q + 1 => alB f i q && f (i + q)

theorem alB_iff (f : Nat → Bool) (i : Nat) : ∀ q, alB f i q = true ↔ ∀ k, i ≤ k → k < i + q → f k = true
  | 0 => by simp only [alB]; exact ⟨fun _ k a b => by omega, fun _ => trivial⟩
  | q + 1 => by
    rw [alB, Bool.and_eq_true, alB_iff f i q]
    constructor
    · rintro ⟨h1, h2⟩ k a b
      by_cases e : k = i + q
      · rw [e]; exact h2
      · exact h1 k a (by omega)
    · exact fun h => ⟨fun k a b => h k a (by omega), h (i + q) (by omega) (by omega)⟩

theorem unt_snoc (f g : Nat → Bool) (q i : Nat) : unt f g (q + 1) i = (unt f g q i || (alB f i q && g (i + q))) := by
  rw [Bool.eq_iff_iff, Bool.or_eq_true, Bool.and_eq_true, unt_iff, unt_iff, alB_iff]
  constructor
  · rintro ⟨j, h1, h2, h3, h4⟩
    by_cases e : j = i + q
    · subst e; exact Or.inr ⟨fun k a b => h4 k a b, h3⟩
    · exact Or.inl ⟨j, h1, by omega, h3, h4⟩
  · rintro (⟨j, h1, h2, h3, h4⟩ | ⟨h1, h2⟩)
    · exact ⟨j, h1, by omega, h3, h4⟩
    · exact ⟨i + q, by omega, by omega, h2, fun k a b => h1 k a b⟩

theorem unt_mono {f g : Nat → Bool} {q d i : Nat} (h : unt f g q i = true) (hq : q ≤ d) : unt f g d i = true := by
  rw [unt_iff] at h ⊢
  obtain ⟨j, h1, h2, h3, h4⟩ := h
  exact ⟨j, h1, by omega, h3, h4⟩

theorem unt_stop {f g : Nat → Bool} {q i : Nat} (h : unt f g q i = false) (hf : f (i + q) = false) (hg : g (i + q) = false) (d : Nat) : unt f g d i = false := by
  cases e : unt f g d i
  · rfl
  · rw [unt_iff] at e
    obtain ⟨j, h1, h2, h3, h4⟩ := e
    by_cases h5 : j < i + q
    · have : unt f g q i = true := (unt_iff f g q i).2 ⟨j, h1, h5, h3, h4⟩
      rw [h] at this; cases this
    · by_cases h6 : j = i + q
      · rw [h6, hg] at h3; cases h3
      · have := h4 (i + q) (by omega) (by omega)
        rw [hf] at this; cases this

/-- Looking ahead to one loop behind the word is enough. -/
theorem unt_doc {s m : Nat} (hm : 0 < m) {f g : Nat → Bool} (hg : Per s m g) {i : Nat} (hi : i < s + m) : unt f g (s + m + m - i) i = unt f g (s + m) i := by
  rw [Bool.eq_iff_iff, unt_all hm hg, unt_iff]
  constructor
  · rintro ⟨j, h1, _, h3, h4⟩
    exact ⟨j, h1, h3, h4⟩
  · rintro ⟨j, h1, h2, h3⟩
    induction j using Nat.strongRecOn with
    | ind j ih =>
      by_cases h : j < s + m + m
      · exact ⟨j, h1, by omega, h2, h3⟩
      · have e := hg (j - m) (by omega)
        rw [show j - m + m = j by omega] at e
        exact ih (j - m) (by omega) (by omega) (by rw [← e]; exact h2) (fun k a b => h3 k a (by omega))

set_option maxHeartbeats 1000000 in
theorem has_any {sa : Option Addr} {s sc : Nat} {la : Option Addr} {m lc : Nat} {S L : Nat → Int} {w : World} (hw : Wd w sa s la m S L) (h60 : s + m ≤ 60) (hm : 0 < m) (i : Nat) (hi : i ≤ 1000) (x : Int) (hx0 : 0 ≤ x) (hx1 : x ≤ 63) :
    Calls Tryd.prog 36 #[.agg #[.slice sa s sc, .slice la m lc], .int .i64 i, .int .i64 x] w fun e w' => e = .returned (.bool (atm s m S L i x)) ∧ Below w.heap.size w w' := by
  obtain ⟨u, hu⟩ : ∃ y, y = w.alloc (.cells #[.slice sa s sc, .slice la m lc] 27) := ⟨_, rfl⟩
  have hB : Below w.heap.size w u := by rw [hu]; exact box_below _ _
  have C := hid (atRef_any (sc := sc) (lc := lc) (hw.below hB) h60 hm i (by omega))
  obtain ⟨z0, z1⟩ := hw.lu64 hm i
  have HE : Hid (atm s m S L i x = decide (ltr s m S L i / 2 ^ x.toNat % 2 = 1)) := hid rfl
  generalize atm s m S L i x = v at *
  generalize ltr s m S L i = z at *
  obtain ⟨q0, q1⟩ := shr_u z0 z1 x.toNat
  have HU := hid hu
  have HB := hid hB
  clear hu hB hw h60 hm hi
  go_enter Tryd.func36, Tryd.ntmps36
  go_wp2_with fail
  rw [← HU.out]
  refine C.out.mono ?_
  rintro e w2 ⟨rfl, hb⟩
  have H := hid (HB.out.trans (hb.mono HB.out.size))
  clear C hb
  go_wp2
  go_ret
  exact ⟨ret_bool (by rw [HE.out]; rfl), H.out⟩

set_option maxHeartbeats 1000000 in
theorem kidR_any {w : World} {nb mb kb : Nat} {a : Option Addr} {s m c cc n : Nat} {K : Nat → Nat → Bool} (hn : n = s + m) (_hn60 : n ≤ 60) (hm : 0 < m) (c1 : w.cell? ⟨nb, 0, none⟩ = some (.int .i64 n)) (c2 : w.cell? ⟨mb, 0, none⟩ = some (.int .i64 m)) (c3 : w.cell? ⟨kb, 0, none⟩ = some (.slice a c cc))
    (h : Kb w a c n K) (j : Nat) (hj : j < c) (hp : Per s m (K j)) (i : Nat) (hi : i ≤ 1000) :
    Calls Tryd.prog 35 #[.int .i64 j, .int .i64 i, .pointer (some ⟨nb, 0, none⟩), .pointer (some ⟨mb, 0, none⟩), .pointer (some ⟨kb, 0, none⟩)] w fun e w' => e = .returned (.bool (K j i)) ∧ w' = w := by
  obtain ⟨b, o, rfl, h2⟩ := h.at (by omega)
  obtain ⟨ci, ai, g1, g2⟩ := h2 j hj
  have HG := hid g2
  have HP := hid hp
  have HN := hid hn
  have hjz : (j : Int) < c := by omega
  clear h h2 g2 hp hn
  go_enter Tryd.func35, Tryd.ntmps35
  go_wp2
  go_loop [1] (fun v => ∃ q : Nat, q ≤ i ∧ v = .int .i64 q ∧ Hid (K j q = K j i)) (fun v => (intOf v).toNat)
  case atStart => exact ⟨i, Nat.le_refl _, rfl, hid rfl⟩
  case round =>
    obtain ⟨q, hq, rfl, HQ⟩ := hrel
    by_cases hlt : q < n
    · obtain ⟨bi, oi, rfl, g3⟩ := HG.out q hlt
      have hqz : (q : Int) < n := by omega
      have g4 : w.cell? ⟨bi, oi + q, none⟩ = some (.bool (K j i)) := by rw [g3, HQ.out]
      clear g3
      go_wp2
      go_ret
      exact ⟨rfl, rfl⟩
    · have hge : (n : Int) ≤ q := by omega
      have hmq : m ≤ q := by have := HN.out; omega
      have em : (q : Int) - m = ((q - m : Nat) : Int) := by omega
      go_wp2
      go_round
      case rel =>
        refine ⟨q - m, by omega, by first | rfl | go_num, hid ?_⟩
        have := HP.out (q - m) (by have := HN.out; omega)
        rw [show q - m + m = q by omega] at this
        rw [← this]; exact HQ.out
      case measure => simp [intOf]; omega

/-- Are the two lists of bools the same? -/
def sameB (n m : Nat) (Y Z : Nat → Bool) : Bool := decide (n = m ∧ ∀ i, i < n → Y i = Z i)
theorem sameB_yes {n m : Nat} {Y Z : Nat → Bool} (e : n = m) (h : ∀ i, i < n → Y i = Z i) : sameB n m Y Z = true := by
  unfold sameB
  rw [decide_eq_true_eq]
  exact ⟨e, h⟩

set_option maxHeartbeats 1000000 in
theorem equalB_any {w : World} {a a' : Option Addr} {n c c' : Nat} {Y : Nat → Bool} (hn : n ≤ 1000) (h : RowB w a n Y) (h' : RowB w a' n Y) :
    Calls Tryd.prog 14 #[.slice a n c, .slice a' n c'] w fun e w' => e = .returned (.bool true) ∧ ∃ q, w' = w.drewN q := by
  obtain ⟨b, o, ha, hc⟩ := h
  obtain ⟨b', o', ha', hc'⟩ := h'
  have HC := hid hc
  have HC' := hid hc'
  clear hc hc'
  go_enter Tryd.func14, Tryd.ntmps14
  go_wp2
  go_loopw [13] (fun i wr => ∃ k : Nat, k ≤ n ∧ i = .int .i64 k ∧ ∃ q, wr = w.drewN q) (fun i _ => n - (intOf i).toNat)
  case atStart => exact ⟨0, Nat.zero_le _, rfl, 0, rfl⟩
  case round =>
    obtain ⟨k, hk, rfl, q, rfl⟩ := hrel
    by_cases hlt : k < n
    · obtain rfl := ha (by omega)
      obtain rfl := ha' (by omega)
      have e1 := HC.out k hlt
      have e2 := HC'.out k hlt
      have hkz : (k : Int) < n := by omega
      generalize Y k = y at *
      go_wp2
      go_quiet (fail)
      go_wp2
      go_roundw
      case rel => exact ⟨k + 1, by omega, by go_num, _, rfl⟩
      case measure => simp [intOf]; omega
    · go_wp2
      go_ret
      exact ⟨rfl, q, rfl⟩

end Go.Proofs.YtejombhfkobcbaaDoor
