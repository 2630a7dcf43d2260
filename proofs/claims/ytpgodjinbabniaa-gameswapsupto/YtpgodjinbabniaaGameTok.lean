/- The law of tokens: what a step takes and puts. The straight process. -/
import Derived.Test.YtpgodjinbabniaaGameWalk
import Derived.Test.YtpgodjinbabniaaProc8
namespace Go.Proofs.Ytpgodjinbabniaa
open Go.RowKit

theorem stK_kind {n k : Int} {ins : List Int} {o : Nat} {t : St3} (h : t ∈ stK n k ins o) : ((k = 6 ∨ k = 7) → t.2.1 = -1) ∧ (¬ (k = 6 ∨ k = 7) → t.2.1 ∈ ins) := by
  unfold stK at h
  split at h
  · exact ⟨fun hh => by omega, fun _ => (mem_prs.1 h).2.1⟩
  · split at h
    · exact ⟨fun _ => by simpa using (mem_prs.1 h).2.1, fun hh => by omega⟩
    · split at h
      · exact ⟨fun _ => by simpa using (mem_prs.1 h).2.1, fun hh => by omega⟩
      · split at h
        · exact ⟨fun hh => by omega, fun _ => (mem_prs.1 h).2.1⟩
        · cases h

theorem step_kind {K A B : Nat → Int} {F N : Nat} {t : St3} (h : t ∈ stAll K A B F N) : ∃ n : Nat, n < N ∧ t.1 = n ∧ ((K n = 6 ∨ K n = 7) → t.2.1 = -1) ∧ (¬ (K n = 6 ∨ K n = 7) → ∃ q : Nat, t.2.1 = q ∧ q < F ∧ B q = n) ∧ 0 ≤ t.2.2 ∧ t.2.2 < 2 ^ tally A n F := by
  obtain ⟨n, hn, h⟩ := mem_stAll.1 h
  refine ⟨n, hn, stK_node h, (stK_kind h).1, fun hk => ?_, (stK_out h).1, (stK_out h).2⟩
  obtain ⟨q, h2, h3, h4⟩ := mem_fl ((stK_kind h).2 hk)
  exact ⟨q, h2, h3, h4⟩

theorem sm_congr {Y Z : Nat → Int} : ∀ {n}, (∀ i, i < n → Y i = Z i) → sm Y n = sm Z n
  | 0, _ => rfl
  | n + 1, h => by rw [sm, sm, sm_congr (fun i hi => h i (by omega)), h n (by omega)]

/-- What is put. -/
def pt (o : Int) : Nat → Int
  | 0 => 0
  | k + 1 => pt o k + o / 2 ^ k % 2

theorem pt_bound (o : Int) : ∀ k, 0 ≤ pt o k ∧ pt o k ≤ k
  | 0 => ⟨Int.le_refl _, Int.le_refl _⟩
  | k + 1 => by
    have := pt_bound o k
    simp only [pt]
    omega

theorem sm_gvn {A : Nat → Int} {t : St3} {Z : Nat → Int} : ∀ n, sm (gvn A t Z) n = sm Z n + pt t.2.2 (tally A t.1 n)
  | 0 => by simp [sm, tally, pt]
  | n + 1 => by
    have ih := sm_gvn (A := A) (t := t) (Z := Z) n
    rw [sm, sm, ih]
    by_cases e : A n = t.1
    · rw [tally_hit e]
      simp only [pt]
      unfold gvn
      by_cases hb : bit t.2.2 (tally A t.1 n) = true
      · rw [if_pos ⟨e, hb⟩]
        unfold bit at hb
        rw [decide_eq_true_eq] at hb
        omega
      · rw [if_neg (fun h => hb h.2)]
        unfold bit at hb
        rw [decide_eq_true_eq] at hb
        omega
    · rw [tally_miss e]
      unfold gvn
      rw [if_neg (fun h => e h.1)]
      omega

theorem sm_tkn_one {B : Nat → Int} {n o : Int} {q : Nat} {Z : Nat → Int} : ∀ F, sm (tkn B (n, (q : Int), o) Z) F = sm Z F - if q < F then 1 else 0
  | 0 => by simp [sm]
  | F + 1 => by
    have ih := sm_tkn_one (B := B) (n := n) (o := o) (q := q) (Z := Z) F
    have e1 : tkn B (n, (q : Int), o) Z F = if F = q then Z F - 1 else Z F := by rw [← tkn_one (B := B) (n := n) (o := o)]; unfold upd; by_cases e : F = q <;> simp [e]
    rw [sm, sm, ih, e1]
    by_cases e : F = q
    · rw [if_pos e, if_neg (by omega), if_pos (by omega)]; omega
    · rw [if_neg e]
      by_cases e2 : q < F
      · rw [if_pos e2, if_pos (by omega)]; omega
      · rw [if_neg e2, if_neg (by omega)]; omega

theorem sm_tkn_all {B : Nat → Int} {n x o : Int} {Z : Nat → Int} (hx : x < 0) : ∀ F, (∀ j, j < F → B j = n → 0 < Z j) → sm (tkn B (n, x, o) Z) F = sm Z F - tally B n F
  | 0, _ => by simp [sm, tally]
  | F + 1, h => by
    have ih := sm_tkn_all (B := B) (n := n) (x := x) (o := o) (Z := Z) hx F (fun j hj => h j (by omega))
    rw [sm, sm, ih]
    unfold tkn
    by_cases e : B F = n
    · rw [tally_hit e, if_pos (Or.inr ⟨hx, e, h F (by omega) e⟩)]
      omega
    · rw [tally_miss e, if_neg]
      · omega
      · rintro (⟨h1, _⟩ | ⟨_, h1, _⟩)
        · exact absurd h1 (by show ¬ 0 ≤ x; omega)
        · exact e h1

/-- PETRI. -/
theorem tokens {K A B : Nat → Int} {F N : Nat} {m : Nat → Int} {t : St3} {n : Nat} (ht : t ∈ stAll K A B F N) (hn : t.1 = n) (h3 : K n ≠ 3) (h7 : K n ≠ 7) (he : enb K A B F m t) :
    sm (frs K A B t m) F = sm m F - (if K n = 6 then (tally B n F : Int) else 1) + pt t.2.2 (tally A n F) := by
  obtain ⟨n', hn', h1, h2, h4, _⟩ := step_kind ht
  obtain rfl : n' = n := by omega
  have e1 : sm (frs K A B t m) F = sm (gvn A t (tkn B t m)) F := sm_congr (fun i _ => by unfold frs; rw [if_neg (by rw [hn]; simpa using h3)])
  rw [e1, sm_gvn, hn]
  obtain ⟨a, x, o⟩ := t
  simp only at hn h1 h2 h4
  subst hn
  by_cases h6 : K n' = 6
  · rw [if_pos h6, sm_tkn_all (by have := h2 (Or.inl h6); omega) F ((enb_and (by have := h2 (Or.inl h6); omega) h6).1 he)]
  · rw [if_neg h6]
    obtain ⟨q, rfl, hq, _⟩ := h4 (by omega)
    rw [sm_tkn_one, if_pos hq]

theorem straight_steps : stAll sKs sAs sBs 2 3 = [(1, 0, 1), (2, 1, 0)] := by decide

theorem straight_E : spE 0 (stAll sKs sAs sBs 2 3).length = 0 := by rw [straight_steps]; rfl

theorem two_row (w : World) (a b : Int) : Row (w.alloc (.cells #[.int .i64 a, .int .i64 b] 3)) (some ⟨w.heap.size, 0, none⟩) 2 (fun i => if i = 0 then a else b) :=
  ⟨w.heap.size, 0, fun _ => rfl, fun i hi => by
    match i, hi with
    | 0, _ => exact cell_of_alloc rfl
    | 1, _ => exact cell_of_alloc rfl⟩

theorem straight_fire {na fa ma : Option Addr} {mc : Nat} {w : World} (hp : Prc w na 3 3 fa 2 sMs sKs sAs sBs) (hm : Row w ma 2 (fun i => if i = 0 then 1 else 0)) :
    Calls Try.prog 12 #[.agg #[.slice na 3 3, .slice fa 2 2], .slice ma 2 mc, .int .i64 0] w fun e w' => Below w.heap.size w w' ∧ ∃ g c, e = .returned (.tuple #[.slice (some ⟨g, 0, none⟩) 2 c, .int .i64 0]) ∧ Row w' (some ⟨g, 0, none⟩) 2 (fun i => if i = 0 then 0 else 1) := by
  refine (fireF_any hp straight_chk (mc := mc) (by omega) hm 0).mono fun e w' hh => ⟨hh.1, ?_⟩
  have hok : mkOk 2 2 (fun i => if i = 0 then (1 : Int) else 0) = true := mkOk_yes (fun i _ => by by_cases e : i = 0 <;> simp [e])
  have h := hh.2.ok (by rw [straight_E, hok]; rfl)
  rw [straight_steps] at h
  have en : enb sKs sAs sBs 2 (fun i => if i = 0 then (1 : Int) else 0) (1, 0, 1) := Or.inl ⟨by decide, by decide⟩
  have e0 : frs sKs sAs sBs (1, 0, 1) (fun i => if i = 0 then (1 : Int) else 0) 0 = 0 := by decide
  have e1 : frs sKs sAs sBs (1, 0, 1) (fun i => if i = 0 then (1 : Int) else 0) 1 = 1 := by decide
  rcases h with ⟨h1, _⟩ | ⟨_, ⟨h1, _⟩ | ⟨_, ⟨j, h1, h2⟩, _⟩ | ⟨_, _, g, c, _, rfl, h1⟩⟩
  · exact absurd ⟨by decide, by decide⟩ h1
  · exact absurd en h1
  · exfalso
    match j, h1 with
    | 0, _ => change 9 < frs sKs sAs sBs (1, 0, 1) (fun i => if i = 0 then (1 : Int) else 0) 0 at h2; rw [e0] at h2; omega
    | 1, _ => change 9 < frs sKs sAs sBs (1, 0, 1) (fun i => if i = 0 then (1 : Int) else 0) 1 at h2; rw [e1] at h2; omega
  · refine ⟨g, c, rfl, h1.row.congr (fun i hi => ?_)⟩
    match i, hi with
    | 0, _ => exact e0
    | 1, _ => exact e1

end Go.Proofs.Ytpgodjinbabniaa
