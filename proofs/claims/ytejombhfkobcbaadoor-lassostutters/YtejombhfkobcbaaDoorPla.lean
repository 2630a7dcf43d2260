/- plainly: no node is an LNext. -/
import Derived.Test.YtejombhfkobcbaaDoorStt
import Derived.Test.YtejombhfkobcbaaDoorUnr
namespace Go.Proofs.YtejombhfkobcbaaDoor
open Go.RowKit

/-- Is it so of the first n? -/
def allTo (r : Nat → Bool) : Nat → Bool
  | 0 => true
  | n + 1 => allTo r n && r n

theorem allTo_iff (r : Nat → Bool) : ∀ n, allTo r n = true ↔ ∀ i, i < n → r i = true
  | 0 => ⟨fun _ i hi => absurd hi (Nat.not_lt_zero i), fun _ => rfl⟩
  | n + 1 => by
    rw [allTo, Bool.and_eq_true, allTo_iff r n]
    exact ⟨fun h => snoc_all h.1 h.2, fun h => ⟨fun i hi => h i (by omega), h n (by omega)⟩⟩

theorem allTo_congr {r q : Nat → Bool} : ∀ n, (∀ i, i < n → r i = q i) → allTo r n = allTo q n
  | 0, _ => rfl
  | n + 1, h => by rw [allTo, allTo, allTo_congr n (fun i hi => h i (by omega)), h n (by omega)]

def plF (t : Fml) (r : Nat → Bool) : Bool := decide (t.kind ≠ 7) && allTo r t.cnt

/-- What plainly tells. -/
def pl (t : Fml) : Bool := t.red true plF

theorem pl_eq (t : Fml) : pl t = (decide (t.kind ≠ 7) && allTo (fun i => pl (t.kid i)) t.cnt) := by
  have e : pl t = plF t (t.reds true plF) := Fml.red_eq _ _ t
  rw [e, plF, allTo_congr (r := t.reds true plF) (q := fun i => pl (t.kid i)) t.cnt (fun i hi => Fml.reds_at hi)]

theorem pl_pln : ∀ t, pl t = true → Pln t := by
  intro t
  induction t using Fml.ind with
  | h t ih =>
    intro h
    rw [pl_eq, Bool.and_eq_true, decide_eq_true_eq, allTo_iff] at h
    exact Pln.mk ⟨h.1, fun i hi => ih i hi (h.2 i hi)⟩

/-- The Kids of a formula lie at block b from o on. -/
def KidsAt (w : World) (b o c : Nat) (kid : Nat → Fml) : Prop := ∀ i, i < c → ∃ ai ci,
      w.cell? ⟨b, o + i * 3, none⟩ = some (.int .i64 (kid i).kind) ∧ w.cell? ⟨b, o + i * 3 + 1, none⟩ = some (.int .i64 (kid i).num) ∧
      w.cell? ⟨b, o + i * 3 + 2, none⟩ = some (.slice ai (kid i).cnt ci) ∧ (kid i).cnt ≤ 9223372036854775807 ∧ Kds w (kid i) ai

/-- What plainly's closure answers of a formula. -/
def Cl41 (t : Fml) : Prop := ∀ (a : Option Addr) (cap : Nat) (w : World), Kds w t a → t.cnt ≤ 9223372036854775807 →
    Calls Tryd.prog 41 #[.agg #[.int .i64 t.kind, .int .i64 t.num, .slice a t.cnt cap]] w fun e w' => e = .returned (.bool (!pl t)) ∧ Below w.heap.size w w'

set_option maxHeartbeats 1000000 in
theorem cl41_of {t : Fml} (h : ∀ (a : Option Addr) (cap : Nat) (w : World), Kds w t a → t.cnt ≤ 9223372036854775807 →
    Calls Tryd.prog 26 #[.agg #[.int .i64 t.kind, .int .i64 t.num, .slice a t.cnt cap]] w fun e w' => e = .returned (.bool (pl t)) ∧ Below w.heap.size w w') : Cl41 t := by
  intro a cap w hK hc
  have C := hid (h a cap (w.alloc (.cells #[.int .i64 t.kind, .int .i64 t.num, .slice a t.cnt cap] 24)) (hK.below (box_below _ _)) hc)
  generalize pl t = p at *
  clear h hK hc
  go_enter Tryd.func41, Tryd.ntmps41
  go_wp2_with fail
  refine C.out.mono ?_
  rintro e z ⟨rfl, hb⟩
  have HB := hid ((box_below w _).trans (hb.mono (box_below w _).size))
  clear hb C
  go_wp2
  go_ret
  exact ⟨rfl, HB.out⟩

set_option maxHeartbeats 2000000 in
theorem index54_any {w : World} {a : Option Addr} {b o c cap : Nat} {kid : Nat → Fml} (ha : 0 < c → a = some ⟨b, o, none⟩) (hc : c ≤ 9223372036854775807) (hk : KidsAt w b o c kid) (h41 : ∀ i, i < c → Cl41 (kid i)) :
    Calls Tryd.prog 54 #[.slice a c cap, .func (.func 41) #[] #[]] w fun e w' => ∃ r : Int, e = .returned (.int .i64 r) ∧ Hid (0 ≤ r ↔ ¬ allTo (fun i => pl (kid i)) c = true) ∧ Below w.heap.size w w' := by
  have HA := hid ha
  have HK := hid hk
  have H41 := hid h41
  clear ha hk h41
  go_enter Tryd.func54, Tryd.ntmps54
  go_wp2
  go_loopw [8] (fun i wr => ∃ k : Nat, k ≤ c ∧ i = .int .i64 k ∧ Hid (∀ j, j < k → pl (kid j) = true) ∧ Hid (Below w.heap.size w wr)) (fun i _ => c - (intOf i).toNat)
  case atStart => exact ⟨0, Nat.zero_le _, rfl, hid (fun j hj => absurd hj (Nat.not_lt_zero j)), hid (Below.refl _ _)⟩
  case round =>
    obtain ⟨k, hkc, rfl, HJ, HB⟩ := hrel
    by_cases hlt : k < c
    · obtain rfl := HA.out (by omega)
      obtain ⟨ai, ci, e1, e2, e3, e4, e5⟩ := HK.out k hlt
      have f1 := below_cell HB.out (Nat.le_refl _) e1
      have f2 := below_cell HB.out (Nat.le_refl _) e2
      have f3 := below_cell HB.out (Nat.le_refl _) e3
      have hkz : (k : Int) < c := by omega
      have C := hid (H41.out k hlt ai ci wr (e5.below HB.out) e4)
      obtain ⟨p, hp⟩ : ∃ x, x = pl (kid k) := ⟨_, rfl⟩
      have HP := hid hp
      rw [← hp] at C
      obtain ⟨kk, hkk⟩ : ∃ x, x = kid k := ⟨_, rfl⟩
      rw [← hkk] at f1 f2 f3 C
      clear hp hkk e1 e2 e3 e4 e5
      go_wp2_with fail
      refine C.out.mono ?_
      rintro e z ⟨rfl, hb⟩
      have HB2 : Hid (Below w.heap.size w z) := HB.out.trans (hb.mono HB.out.size)
      clear hb C
      cases p
      · go_wp2
        go_ret
        exact ⟨k, rfl, hid ⟨fun _ h => absurd (HP.out.trans ((allTo_iff _ c).1 h k hlt)) (by decide), fun _ => Int.natCast_nonneg k⟩, HB2.out⟩
      · go_wp2
        go_roundw
        case rel => exact ⟨k + 1, by omega, by go_num, hid (snoc_all HJ.out HP.out.symm), HB2⟩
        case measure => simp [intOf]; omega
    · obtain rfl : k = c := by omega
      go_wp2
      go_ret
      exact ⟨-1, rfl, hid ⟨fun h => by omega, fun h => absurd ((allTo_iff _ k).2 HJ.out) h⟩, HB.out⟩

set_option maxHeartbeats 2000000 in
theorem contains40_any {w : World} {a : Option Addr} {b o c cap : Nat} {kid : Nat → Fml} (ha : 0 < c → a = some ⟨b, o, none⟩) (hc : c ≤ 9223372036854775807) (hk : KidsAt w b o c kid) (h41 : ∀ i, i < c → Cl41 (kid i)) :
    Calls Tryd.prog 40 #[.slice a c cap, .func (.func 41) #[] #[]] w fun e w' => e = .returned (.bool (!allTo (fun i => pl (kid i)) c)) ∧ Below w.heap.size w w' := by
  have C := hid (index54_any (cap := cap) ha hc hk h41)
  generalize allTo (fun i => pl (kid i)) c = p at *
  clear ha hk h41
  go_enter Tryd.func40, Tryd.ntmps40
  go_wp2_with fail
  refine C.out.mono ?_
  rintro e z ⟨r, rfl, HR, hb⟩
  have HB := hid hb
  clear hb C
  cases p
  · have hr : 0 ≤ r := HR.out.2 (by decide)
    go_wp2
    go_ret
    exact ⟨rfl, HB.out⟩
  · have hr : ¬ 0 ≤ r := fun h => HR.out.1 h rfl
    have hd : decide (0 ≤ r) = false := decide_eq_false hr
    go_wp2
    go_ret
    exact ⟨rfl, HB.out⟩

set_option maxHeartbeats 2000000 in
theorem plainly_any : ∀ (t : Fml) (a : Option Addr) (cap : Nat) (w : World), Kds w t a → t.cnt ≤ 9223372036854775807 →
    Calls Tryd.prog 26 #[.agg #[.int .i64 t.kind, .int .i64 t.num, .slice a t.cnt cap]] w fun e w' => e = .returned (.bool (pl t)) ∧ Below w.heap.size w w' := by
  intro t
  induction t using Fml.ind with
  | h t ih =>
  intro a cap w hK hc
  obtain ⟨b, o, ha, hkid⟩ := hK.out
  obtain ⟨u, hu⟩ : ∃ x, x = w.alloc (.cells #[.int .i64 t.kind, .int .i64 t.num, .slice a t.cnt cap] 24) := ⟨_, rfl⟩
  have hB : Below w.heap.size w u := by rw [hu]; exact box_below _ _
  have C : Hid (Calls Tryd.prog 40 #[.slice a t.cnt cap, .func (.func 41) #[] #[]] u fun e w' => e = .returned (.bool (!allTo (fun i => pl (t.kid i)) t.cnt)) ∧ Below u.heap.size u w') := by
    refine contains40_any ha hc (fun i hi => ?_) (fun i hi => cl41_of (ih i hi))
    obtain ⟨ai, ci, e1, e2, e3, e4, e5⟩ := hkid i hi
    exact ⟨ai, ci, below_cell hB (Nat.le_refl _) e1, below_cell hB (Nat.le_refl _) e2, below_cell hB (Nat.le_refl _) e3, e4, e5.below hB⟩
  have E := hid (pl_eq t)
  have HU := hid hu
  have HB := hid hB
  generalize t.kind = k at *
  generalize t.num = n at *
  generalize t.cnt = c at *
  generalize allTo (fun i => pl (t.kid i)) c = p at *
  generalize pl t = r at *
  clear ih hK hc ha hkid hu hB
  by_cases h7 : k = 7
  · have hE : Hid (r = false) := hid (by rw [E.out]; simp [h7])
    subst h7
    go_enter Tryd.func26, Tryd.ntmps26
    go_wp2
    go_ret
    exact ⟨ret_bool hE.out.symm, box_below _ _⟩
  · have hE : Hid (r = p) := hid (by rw [E.out]; simp [h7])
    have hkb : (k != 7) = true := by simpa using h7
    clear E
    go_enter Tryd.func26, Tryd.ntmps26
    go_wp2_with fail
    rw [← HU.out]
    refine C.out.mono ?_
    rintro e z ⟨rfl, hb⟩
    have HB2 := hid (HB.out.trans (hb.mono HB.out.size))
    clear hb C HU
    go_wp2
    go_ret
    exact ⟨by rw [hE.out]; first | rfl | simp, HB2.out⟩

end Go.Proofs.YtejombhfkobcbaaDoor
