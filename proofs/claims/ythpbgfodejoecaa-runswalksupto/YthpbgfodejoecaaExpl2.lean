/- An exploration of markings. -/
import Derived.Test.YthpbgfodejoecaaExpl
import Derived.Test.YthpbgfodejoecaaGameWalk
namespace Go.Proofs.Ythpbgfodejoecaa
open Go.RowKit

/-- A marking's list, as a function. -/
def fnl (m : List Int) (i : Nat) : Int := m.getD i 0

theorem fnl_lst {F : Nat} {f : Nat → Int} {i : Nat} (h : i < F) : fnl (lst F f) i = f i := lst_getD F f i h

theorem cm_congr {A B : Nat → Int} {F : Nat} {m m' : Nat → Int} {n : Int} {j : Nat} (h : ∀ i, i < F → m i = m' i) : Cm A B F m n j ↔ Cm A B F m' n j := by
  have e : (fun x => x < F ∧ 0 < m x) = (fun x => x < F ∧ 0 < m' x) := by
    funext x
    apply propext
    constructor
    · rintro ⟨a, b⟩; exact ⟨a, by rw [← h x a]; exact b⟩
    · rintro ⟨a, b⟩; exact ⟨a, by rw [h x a]; exact b⟩
  unfold Cm
  rw [e]

theorem enb_up {K A B : Nat → Int} {F : Nat} {m m' : Nat → Int} {t : St3} (h : ∀ i, i < F → m i = m' i) (hx : t.2.1 < F) (he : enb K A B F m t) : enb K A B F m' t := by
  rcases he with ⟨h1, h2⟩ | ⟨h1, h2, h3⟩ | ⟨h1, h2, ⟨j, hj, hB, hp⟩, h4⟩
  · exact Or.inl ⟨h1, by rw [← h _ (by omega)]; exact h2⟩
  · exact Or.inr (Or.inl ⟨h1, h2, fun j hj hB => by rw [← h j hj]; exact h3 j hj hB⟩)
  · exact Or.inr (Or.inr ⟨h1, h2, ⟨j, hj, hB, by rw [← h j hj]; exact hp⟩, fun ⟨j, hj, hB, h0, hc⟩ => h4 ⟨j, hj, hB, by rw [h j hj]; exact h0, (cm_congr h).2 hc⟩⟩)

theorem enb_congr {K A B : Nat → Int} {F : Nat} {m m' : Nat → Int} {t : St3} (h : ∀ i, i < F → m i = m' i) (hx : t.2.1 < F) : enb K A B F m t ↔ enb K A B F m' t :=
  ⟨enb_up h hx, enb_up (fun i hi => (h i hi).symm) hx⟩

theorem frs_congr {K A B : Nat → Int} {t : St3} {m m' : Nat → Int} {j : Nat} (h : m j = m' j) : frs K A B t m j = frs K A B t m' j := by
  unfold frs gvn tkn
  simp only [h]

/-- The marking behind step s. -/
def nxl (K A B : Nat → Int) (F : Nat) (l : List St3) (s : Int) (m : List Int) : List Int := lst F (frs K A B (l.getD s.toNat (0, 0, 0)) (fnl m))

/-- The steps that are enabled. -/
def cnl (X : List Int → Nat → Int) (n : Nat) (m : List Int) : List Int := fl (X m) 1 n

def XOk (K A B : Nat → Int) (F : Nat) (l : List St3) (X : List Int → Nat → Int) : Prop := ∀ m i, X m i = 1 ↔ enb K A B F (fnl m) (l.getD i (0, 0, 0))

theorem fl_mem {X : Nat → Int} {x : Int} {j : Nat} (h : X j = x) : ∀ {k}, j < k → (j : Int) ∈ fl X x k
  | 0, hj => by omega
  | k + 1, hj => by
    by_cases e : j = k
    · subst e
      rw [fl_hit h]
      simp
    · have := fl_mem h (k := k) (by omega)
      by_cases hk : X k = x
      · rw [fl_hit hk]
        exact List.mem_append.2 (Or.inl this)
      · rw [fl_miss hk]
        exact this

theorem mem_cnl {K A B : Nat → Int} {F : Nat} {l : List St3} {X : List Int → Nat → Int} (hX : XOk K A B F l X) {m : List Int} {s : Int} : s ∈ cnl X l.length m ↔ ∃ j : Nat, s = j ∧ j < l.length ∧ enb K A B F (fnl m) (l.getD j (0, 0, 0)) := by
  constructor
  · intro h
    obtain ⟨j, h1, h2, h3⟩ := mem_fl h
    exact ⟨j, h1, h2, (hX m j).1 h3⟩
  · rintro ⟨j, rfl, h2, h3⟩
    exact fl_mem ((hX m j).2 h3) h2

theorem ovr_lst {tk : Int} {F : Nat} {f : Nat → Int} : ovr tk (lst F f) = true ↔ ∃ j, j < F ∧ tk < f j := by simp [ovr, lst]

theorem ovr_no {tk : Int} {F : Nat} {f : Nat → Int} (h : ovr tk (lst F f) = false) (j : Nat) (hj : j < F) : f j ≤ tk := by
  apply Int.not_lt.1
  intro hh
  have := ovr_lst.2 ⟨j, hj, hh⟩
  rw [h] at this
  cases this

/-- A way that is gone, as a path. -/
theorem goes_pth {K A B : Nat → Int} {F : Nat} {l : List St3} {X : List Int → Nat → Int} (hX : XOk K A B F l X) (hl : ∀ j, j < l.length → (l.getD j (0, 0, 0)).2.1 < F) {tk : Int} (htk : tk ≤ 9) {P : List Int → Prop} {w m : List Int}
    (h : Goes (nxl K A B F l) (cnl X l.length) (lst F (bgn K A)) (fun x => P x ∧ ovr tk x = false) w m) :
    ∃ Ms, Pth K A B F l w.length Ms (fun i => (w.getD i 0).toNat) ∧ m = lst F (Ms w.length) ∧ (∀ i, i < w.length → 0 ≤ w.getD i 0) ∧ ∀ i, i ≤ w.length → P (lst F (Ms i)) ∧ ovr tk (lst F (Ms i)) = false := by
  obtain ⟨Ls, h0, h1, h2, h3⟩ := h
  have hlst : ∀ i, i ≤ w.length → ∃ Z, Ls i = lst F Z := fun i hi => by
    cases i with
    | zero => exact ⟨_, h0⟩
    | succ i => exact ⟨_, (h3 i (by omega)).2⟩
  have hag : ∀ i, i ≤ w.length → Ls i = lst F (fnl (Ls i)) := fun i hi => by
    obtain ⟨Z, hZ⟩ := hlst i hi
    rw [hZ]
    exact lst_congr (fun j hj => (fnl_lst hj).symm)
  have hst : ∀ i, i < w.length → ∃ j : Nat, w.getD i 0 = j ∧ j < l.length ∧ enb K A B F (fnl (Ls i)) (l.getD j (0, 0, 0)) ∧ Ls (i + 1) = lst F (frs K A B (l.getD j (0, 0, 0)) (fnl (Ls i))) := fun i hi => by
    obtain ⟨j, e1, e2, e3⟩ := (mem_cnl hX).1 (h3 i hi).1
    refine ⟨j, e1, e2, e3, ?_⟩
    rw [(h3 i hi).2, e1]
    unfold nxl
    rw [Int.toNat_natCast]
  let Ms : Nat → Nat → Int := fun i => Nat.rec (bgn K A) (fun i m => frs K A B (l.getD (w.getD i 0).toNat (0, 0, 0)) m) i
  have hMs : ∀ i, i ≤ w.length → ∀ j, j < F → Ms i j = fnl (Ls i) j := by
    intro i
    induction i with
    | zero =>
      intro _ j hj
      show bgn K A j = _
      rw [h0, fnl_lst hj]
    | succ i ih =>
      intro hi j hj
      obtain ⟨n, e1, _, _, e4⟩ := hst i (by omega)
      rw [e4, fnl_lst hj]
      show frs K A B (l.getD (w.getD i 0).toNat (0, 0, 0)) (Ms i) j = _
      rw [e1, Int.toNat_natCast]
      exact frs_congr (ih (by omega) j hj)
  have hLs : ∀ i, i ≤ w.length → Ls i = lst F (Ms i) := fun i hi => by
    rw [hag i hi]
    exact lst_congr (fun j hj => (hMs i hi j hj).symm)
  have hpos : ∀ i, i ≤ w.length → ∀ j, j < F → 0 ≤ Ms i j := by
    intro i
    induction i with
    | zero => exact fun _ j _ => (bgn_ok K A j).1
    | succ i ih =>
      intro hi j hj
      obtain ⟨n, e1, e2, e3, _⟩ := hst i (by omega)
      show 0 ≤ frs K A B (l.getD (w.getD i 0).toNat (0, 0, 0)) (Ms i) j
      rw [e1, Int.toNat_natCast]
      refine frs_bound ((enb_congr (fun k hk => hMs i (by omega) k hk) (hl n e2)).2 e3) (fun k hk => ⟨ih (by omega) k hk, ?_⟩) j hj
      have := (h2 i (by omega)).2
      rw [hLs i (by omega)] at this
      exact Int.le_trans (ovr_no this k hk) htk
  refine ⟨Ms, ⟨rfl, fun i hi j hj => ⟨hpos i hi j hj, ?_⟩, fun i hi => ?_⟩, by rw [← h1]; exact hLs _ (Nat.le_refl _), fun i hi => ?_, fun i hi => by rw [← hLs i hi]; exact h2 i hi⟩
  · have := (h2 i hi).2
    rw [hLs i hi] at this
    exact Int.le_trans (ovr_no this j hj) htk
  · obtain ⟨n, e1, e2, e3, _⟩ := hst i hi
    show (w.getD i 0).toNat < l.length ∧ enb K A B F (Ms i) (l.getD (w.getD i 0).toNat (0, 0, 0)) ∧ Ms (i + 1) = frs K A B (l.getD (w.getD i 0).toNat (0, 0, 0)) (Ms i)
    refine ⟨by rw [e1, Int.toNat_natCast]; exact e2, ?_, rfl⟩
    rw [e1, Int.toNat_natCast]
    exact (enb_congr (fun k hk => hMs i (by omega) k hk) (hl n e2)).2 e3
  · obtain ⟨n, e1, _⟩ := hst i hi
    rw [e1]
    omega

/-- Every marking of a space is one that can be come to. -/
theorem xinv_goes {tk : Int} {q : Nat} {nx : Int → List Int → List Int} {cn : List Int → List Int} {m0 : List Int} {S : Xp} {done : List Int} (h : XInv tk q nx cn m0 S done) {m : List Int} (hm : m ∈ S.marks) : ∃ w, Goes nx cn m0 (fun x => x ∈ S.marks) w m := by
  obtain ⟨k, hk, hkm⟩ := List.getElem_of_mem hm
  have hkw : k < S.ways.length := by rw [h.wlen]; exact hk
  exact ⟨_, (h.paths k _ m (List.getElem?_eq_getElem hkw) (by rw [List.getElem?_eq_getElem hk, hkm])).1⟩

theorem xinv_led {tk : Int} {q : Nat} {nx : Int → List Int → List Int} {cn : List Int → List Int} {m0 : List Int} {S : Xp} (h : XInv tk q nx cn m0 S []) {k : Nat} (h0 : 0 < k) (hk : k < S.marks.length) :
    ∃ (n : Nat) (l : List (Int × Int)) (e : Int × Int), n < k ∧ S.nexts[n]? = some l ∧ e ∈ l ∧ e.2 = k := by
  rcases h.led k h0 hk with h1 | ⟨_, e, h1, _⟩
  · exact h1
  · have := h.curs
    rw [List.map_eq_nil_iff] at this
    rw [this] at h1
    cases h1

end Go.Proofs.Ythpbgfodejoecaa
