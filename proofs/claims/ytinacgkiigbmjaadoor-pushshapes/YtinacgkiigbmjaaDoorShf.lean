/- shaped, has, Size. -/
import Derived.Test.YtinacgkiigbmjaaDoorRsl
namespace Go.Proofs.YtinacgkiigbmjaaDoor
open Go.RowKit

set_option maxHeartbeats 2000000 in
theorem indexNone38 {w : World} {a : Option Addr} {b o c cap : Nat} {kid : Nat → Fml} (ha : 0 < c → a = some ⟨b, o, none⟩) (hc : c ≤ 9223372036854775807) (hk : KidsAt w b o c kid)
    (hf : ∀ i, i < c → ∀ (ai : Option Addr) (ci : Nat) (z : World), Below w.heap.size w z → Kds z (kid i) ai → Calls Tryd.prog 38 #[.agg #[.int .i64 (kid i).kind, .int .i64 (kid i).num, .slice ai (kid i).cnt ci]] z fun e w' => e = .returned (.bool false) ∧ Below z.heap.size z w') :
    Calls Tryd.prog 49 #[.slice a c cap, .func (.func 38) #[] #[]] w fun e w' => e = .returned (.int .i64 (-1)) ∧ Below w.heap.size w w' := by
  have HA := hid ha
  have HK := hid hk
  have HF := hid hf
  clear ha hk hf
  go_enter Tryd.func49, Tryd.ntmps49
  go_wp2
  go_loopw [8] (fun i wr => ∃ k : Nat, k ≤ c ∧ i = .int .i64 k ∧ Hid (Below w.heap.size w wr)) (fun i _ => c - (intOf i).toNat)
  case atStart => exact ⟨0, Nat.zero_le _, rfl, hid (Below.refl _ _)⟩
  case round =>
    obtain ⟨k, hkc, rfl, HB⟩ := hrel
    by_cases hlt : k < c
    · obtain rfl := HA.out (by omega)
      obtain ⟨ai, ci, e1, e2, e3, e4, e5⟩ := HK.out k hlt
      have f1 := below_cell HB.out (Nat.le_refl _) e1
      have f2 := below_cell HB.out (Nat.le_refl _) e2
      have f3 := below_cell HB.out (Nat.le_refl _) e3
      have hkz : (k : Int) < c := by omega
      have C := hid (HF.out k hlt ai ci wr HB.out (e5.below HB.out))
      obtain ⟨kk, hkk⟩ : ∃ x, x = kid k := ⟨_, rfl⟩
      rw [← hkk] at f1 f2 f3 C
      clear hkk e1 e2 e3 e4 e5
      go_wp2_with fail
      refine C.out.mono ?_
      rintro e z ⟨rfl, hb⟩
      have HB2 : Hid (Below w.heap.size w z) := HB.out.trans (hb.mono HB.out.size)
      clear hb C
      go_wp2
      go_roundw
      case rel => exact ⟨k + 1, by omega, by go_num, HB2⟩
      case measure => simp [intOf]; omega
    · obtain rfl : k = c := by omega
      go_wp2
      go_ret
      exact ⟨rfl, HB.out⟩

set_option maxHeartbeats 2000000 in
theorem containsNone38 {w : World} {a : Option Addr} {b o c cap : Nat} {kid : Nat → Fml} (ha : 0 < c → a = some ⟨b, o, none⟩) (hc : c ≤ 9223372036854775807) (hk : KidsAt w b o c kid)
    (hf : ∀ i, i < c → ∀ (ai : Option Addr) (ci : Nat) (z : World), Below w.heap.size w z → Kds z (kid i) ai → Calls Tryd.prog 38 #[.agg #[.int .i64 (kid i).kind, .int .i64 (kid i).num, .slice ai (kid i).cnt ci]] z fun e w' => e = .returned (.bool false) ∧ Below z.heap.size z w') :
    Calls Tryd.prog 37 #[.slice a c cap, .func (.func 38) #[] #[]] w fun e w' => e = .returned (.bool false) ∧ Below w.heap.size w w' := by
  have C := hid (indexNone38  (cap := cap) ha hc hk hf)
  clear ha hk hf
  go_enter Tryd.func37, Tryd.ntmps37
  go_wp2_with fail
  refine C.out.mono ?_
  rintro e z ⟨rfl, hb⟩
  have HB := hid hb
  clear hb C
  go_wp2
  go_ret
  exact ⟨rfl, HB.out⟩

set_option maxHeartbeats 2000000 in
theorem indexNone39 (X : Value) {w : World} {a : Option Addr} {b o c cap : Nat} {kid : Nat → Fml} (ha : 0 < c → a = some ⟨b, o, none⟩) (hc : c ≤ 9223372036854775807) (hk : KidsAt w b o c kid)
    (hf : ∀ i, i < c → ∀ (ai : Option Addr) (ci : Nat) (z : World), Below w.heap.size w z → Kds z (kid i) ai → Calls Tryd.prog 39 #[.agg #[.int .i64 (kid i).kind, .int .i64 (kid i).num, .slice ai (kid i).cnt ci], X] z fun e w' => e = .returned (.bool false) ∧ Below z.heap.size z w') :
    Calls Tryd.prog 49 #[.slice a c cap, .func (.func 39) #[] #[X]] w fun e w' => e = .returned (.int .i64 (-1)) ∧ Below w.heap.size w w' := by
  have HA := hid ha
  have HK := hid hk
  have HF := hid hf
  clear ha hk hf
  go_enter Tryd.func49, Tryd.ntmps49
  go_wp2
  go_loopw [8] (fun i wr => ∃ k : Nat, k ≤ c ∧ i = .int .i64 k ∧ Hid (Below w.heap.size w wr)) (fun i _ => c - (intOf i).toNat)
  case atStart => exact ⟨0, Nat.zero_le _, rfl, hid (Below.refl _ _)⟩
  case round =>
    obtain ⟨k, hkc, rfl, HB⟩ := hrel
    by_cases hlt : k < c
    · obtain rfl := HA.out (by omega)
      obtain ⟨ai, ci, e1, e2, e3, e4, e5⟩ := HK.out k hlt
      have f1 := below_cell HB.out (Nat.le_refl _) e1
      have f2 := below_cell HB.out (Nat.le_refl _) e2
      have f3 := below_cell HB.out (Nat.le_refl _) e3
      have hkz : (k : Int) < c := by omega
      have C := hid (HF.out k hlt ai ci wr HB.out (e5.below HB.out))
      obtain ⟨kk, hkk⟩ : ∃ x, x = kid k := ⟨_, rfl⟩
      rw [← hkk] at f1 f2 f3 C
      clear hkk e1 e2 e3 e4 e5
      go_wp2_with fail
      refine C.out.mono ?_
      rintro e z ⟨rfl, hb⟩
      have HB2 : Hid (Below w.heap.size w z) := HB.out.trans (hb.mono HB.out.size)
      clear hb C
      go_wp2
      go_roundw
      case rel => exact ⟨k + 1, by omega, by go_num, HB2⟩
      case measure => simp [intOf]; omega
    · obtain rfl : k = c := by omega
      go_wp2
      go_ret
      exact ⟨rfl, HB.out⟩

set_option maxHeartbeats 2000000 in
theorem containsNone39 (X : Value) {w : World} {a : Option Addr} {b o c cap : Nat} {kid : Nat → Fml} (ha : 0 < c → a = some ⟨b, o, none⟩) (hc : c ≤ 9223372036854775807) (hk : KidsAt w b o c kid)
    (hf : ∀ i, i < c → ∀ (ai : Option Addr) (ci : Nat) (z : World), Below w.heap.size w z → Kds z (kid i) ai → Calls Tryd.prog 39 #[.agg #[.int .i64 (kid i).kind, .int .i64 (kid i).num, .slice ai (kid i).cnt ci], X] z fun e w' => e = .returned (.bool false) ∧ Below z.heap.size z w') :
    Calls Tryd.prog 37 #[.slice a c cap, .func (.func 39) #[] #[X]] w fun e w' => e = .returned (.bool false) ∧ Below w.heap.size w w' := by
  have C := hid (indexNone39 X (cap := cap) ha hc hk hf)
  clear ha hk hf
  go_enter Tryd.func37, Tryd.ntmps37
  go_wp2_with fail
  refine C.out.mono ?_
  rintro e z ⟨rfl, hb⟩
  have HB := hid hb
  clear hb C
  go_wp2
  go_ret
  exact ⟨rfl, HB.out⟩

/-- shaped of a formula with nots at atoms alone. -/
def Sh21 (t : Fml) : Prop := ∀ (a : Option Addr) (cap : Nat) (w : World), Kds w t a → Calls Tryd.prog 21 #[.agg #[.int .i64 t.kind, .int .i64 t.num, .slice a t.cnt cap]] w fun e w' => e = .returned (.bool true) ∧ Below w.heap.size w w'

set_option maxHeartbeats 1000000 in
theorem cl38 {t : Fml} (h : Sh21 t) (a : Option Addr) (cap : Nat) (w : World) (hk : Kds w t a) :
    Calls Tryd.prog 38 #[.agg #[.int .i64 t.kind, .int .i64 t.num, .slice a t.cnt cap]] w fun e w' => e = .returned (.bool false) ∧ Below w.heap.size w w' := by
  have C := hid (h a cap (w.alloc (.cells #[.int .i64 t.kind, .int .i64 t.num, .slice a t.cnt cap] 24)) (hk.below (box_below _ _)))
  clear h hk
  go_enter Tryd.func38, Tryd.ntmps38
  go_wp2_with fail
  refine C.out.mono ?_
  rintro e z ⟨rfl, hb⟩
  have HB := hid ((box_below w _).trans (hb.mono (box_below w _).size))
  clear hb C
  go_wp2
  go_ret
  exact ⟨rfl, HB.out⟩

set_option maxHeartbeats 2000000 in
theorem shaped_any : ∀ t, Wf t → Shp t → Sh21 t := by
  intro t
  induction t using Fml.ind with
  | h t ih =>
  intro hw hs a cap w hk
  have hq := fit_cases hw.out.1
  obtain ⟨b, o, ha, hkid⟩ := hk.out
  obtain ⟨u, hu⟩ : ∃ y, y = w.alloc (.cells #[.int .i64 t.kind, .int .i64 t.num, .slice a t.cnt cap] 24) := ⟨_, rfl⟩
  have hB : Below w.heap.size w u := by rw [hu]; exact box_below _ _
  have C : Hid (Calls Tryd.prog 37 #[.slice a t.cnt cap, .func (.func 38) #[] #[]] u fun e w' => e = .returned (.bool false) ∧ Below u.heap.size u w') := by
    refine containsNone38 (b := b) (o := o) (kid := t.kid) ha (wf_big hw) (fun i hi => ?_) (fun i hi ai ci z hz hkz => cl38 (ih i hi (hw.out.2 i hi) (hs.out.2 i hi)) ai ci z hkz)
    obtain ⟨ai, ci, e1, e2, e3, e4, e5⟩ := hkid i hi
    exact ⟨ai, ci, below_cell hB (Nat.le_refl _) e1, below_cell hB (Nat.le_refl _) e2, below_cell hB (Nat.le_refl _) e3, e4, e5.below hB⟩
  have HU := hid hu
  have HB := hid hB
  by_cases h4 : t.kind = 4
  · have h3 := hs.out.1 h4
    have hc1 : t.cnt = 1 := by omega
    obtain rfl := ha (by omega)
    obtain ⟨ai, ci, e1, e2, e3, e4, e5⟩ := hkid 0 (by omega)
    simp only [Nat.zero_mul, Nat.add_zero] at e1
    rw [h3] at e1
    have hbw : b < w.heap.size := World.block_lt_of_cell? _ _ e1
    have hb1 : (t.kind == 4) = true := beq_iff_eq.2 h4
    have hcz : (0 : Int) < t.cnt := by omega
    have hcn : 0 < t.cnt := by omega
    clear hu hB ih hw hs hk ha hkid hq h4 h3 hc1 e2 e3 e4 e5
    go_enter Tryd.func21, Tryd.ntmps21
    go_wp2_with fail
    rw [← HU.out]
    refine C.out.mono ?_
    rintro e z ⟨rfl, hb⟩
    have HB2 := hid (HB.out.trans (hb.mono HB.out.size))
    clear hb C HU
    go_wp2
    go_ret
    exact ⟨rfl, HB2.out⟩
  · have hb1 : (t.kind == 4) = false := beq_eq_false_iff_ne.2 h4
    clear hu hB ih hw hs hk ha hkid hq h4
    go_enter Tryd.func21, Tryd.ntmps21
    go_wp2_with fail
    rw [← HU.out]
    refine C.out.mono ?_
    rintro e z ⟨rfl, hb⟩
    have HB2 := hid (HB.out.trans (hb.mono HB.out.size))
    clear hb C HU
    go_wp2
    go_ret
    exact ⟨rfl, HB2.out⟩

/-- has of a formula that has not that Kind. -/
def Ha23 (k : Int) (t : Fml) : Prop := ∀ (a : Option Addr) (cap : Nat) (w : World), Kds w t a → Calls Tryd.prog 23 #[.agg #[.int .i64 t.kind, .int .i64 t.num, .slice a t.cnt cap], .int .i64 k] w fun e w' => e = .returned (.bool false) ∧ Below w.heap.size w w'

set_option maxHeartbeats 1000000 in
theorem cl39 {k : Int} {t : Fml} (h : Ha23 k t) (x : Nat) (a : Option Addr) (cap : Nat) (w : World) (hx : w.cell? ⟨x, 0, none⟩ = some (.int .i64 k)) (hk : Kds w t a) :
    Calls Tryd.prog 39 #[.agg #[.int .i64 t.kind, .int .i64 t.num, .slice a t.cnt cap], .pointer (some ⟨x, 0, none⟩)] w fun e w' => e = .returned (.bool false) ∧ Below w.heap.size w w' := by
  have C := hid (h a cap (w.alloc (.cells #[.int .i64 t.kind, .int .i64 t.num, .slice a t.cnt cap] 24)) (hk.below (box_below _ _)))
  have hxl : x < w.heap.size := World.block_lt_of_cell? _ _ hx
  clear h hk
  go_enter Tryd.func39, Tryd.ntmps39
  go_wp2_with fail
  refine C.out.mono ?_
  rintro e z ⟨rfl, hb⟩
  have HB := hid ((box_below w _).trans (hb.mono (box_below w _).size))
  clear hb C
  go_wp2
  go_ret
  exact ⟨rfl, HB.out⟩

set_option maxHeartbeats 2000000 in
theorem has_any (k : Int) : ∀ t, Wf t → ¬ Has k t → Ha23 k t := by
  intro t
  induction t using Fml.ind with
  | h t ih =>
  intro hw hs a cap w hk
  obtain ⟨b, o, ha, hkid⟩ := hk.out
  obtain ⟨u, hu⟩ : ∃ y, y = (w.alloc (.cells #[.int .i64 t.kind, .int .i64 t.num, .slice a t.cnt cap] 24)).alloc (.cells #[.int .i64 k] 3) := ⟨_, rfl⟩
  have e1 : (w.alloc (.cells #[.int .i64 t.kind, .int .i64 t.num, .slice a t.cnt cap] 24)).heap.size = w.heap.size + 1 := by simp
  have hB : Below w.heap.size w u := by rw [hu]; exact ((Below.refl _ _).alloc (Nat.le_refl _) _).alloc (by rw [e1]; omega) _
  have hx : u.cell? ⟨w.heap.size + 1, 0, none⟩ = some (.int .i64 k) := by rw [hu]; exact cell_of_cells (alloc_last _ e1) rfl
  have hs' : t.kind ≠ k ∧ ∀ i, i < t.cnt → ¬ Has k (t.kid i) := ⟨fun e => hs ((has_eq _ _).2 (Or.inl e)), fun i hi e => hs ((has_eq _ _).2 (Or.inr ⟨i, hi, e⟩))⟩
  have C : Hid (Calls Tryd.prog 37 #[.slice a t.cnt cap, .func (.func 39) #[] #[.pointer (some ⟨w.heap.size + 1, 0, none⟩)]] u fun e w' => e = .returned (.bool false) ∧ Below u.heap.size u w') := by
    refine containsNone39 _ (b := b) (o := o) (kid := t.kid) ha (wf_big hw) (fun i hi => ?_) (fun i hi ai ci z hz hkz => cl39 (ih i hi (hw.out.2 i hi) (hs'.2 i hi)) _ ai ci z (below_cell hz (Nat.le_refl _) hx) hkz)
    obtain ⟨ai, ci, e1, e2, e3, e4, e5⟩ := hkid i hi
    exact ⟨ai, ci, below_cell hB (Nat.le_refl _) e1, below_cell hB (Nat.le_refl _) e2, below_cell hB (Nat.le_refl _) e3, e4, e5.below hB⟩
  have HU := hid hu
  have HB := hid hB
  have hb1 : (t.kind == k) = false := beq_eq_false_iff_ne.2 hs'.1
  clear hu hB ih hw hs hs' hk ha hkid e1 hx
  go_enter Tryd.func23, Tryd.ntmps23
  go_wp2_with fail
  rw [← HU.out]
  refine C.out.mono ?_
  rintro e z ⟨rfl, hb⟩
  have HB2 := hid (HB.out.trans (hb.mono HB.out.size))
  clear hb C HU
  go_wp2
  go_ret
  exact ⟨rfl, HB2.out⟩

theorem sumTo_to {f : Nat → Nat} {n m : Nat} (h : n ≤ m) : sumTo f n ≤ sumTo f m := by
  induction m with
  | zero =>
    obtain rfl : n = 0 := by omega
    exact Nat.le_refl _
  | succ m ih =>
    by_cases e : n = m + 1
    · subst e; exact Nat.le_refl _
    · rw [sumTo]
      have := ih (by omega)
      omega

set_option maxHeartbeats 2000000 in
theorem size_any : ∀ t, sz t ≤ 1000 → t.cnt ≤ 9223372036854775807 → ∀ (a : Option Addr) (cap : Nat) (w : World), Kds w t a → Calls Tryd.prog 22 #[.agg #[.int .i64 t.kind, .int .i64 t.num, .slice a t.cnt cap]] w fun e w' => e = .returned (.int .i64 (sz t)) ∧ Below w.heap.size w w' := by
  intro t
  induction t using Fml.ind with
  | h t ih =>
  intro hsz hc a cap w hk
  obtain ⟨b, o, ha, hkid⟩ := hk.out
  have HA := hid ha
  have HK : Hid (KidsAt w b o t.cnt t.kid) := hkid
  have HIH : Hid (∀ i, i < t.cnt → sz (t.kid i) ≤ 1000 → (t.kid i).cnt ≤ 9223372036854775807 → ∀ (a : Option Addr) (cap : Nat) (w : World), Kds w (t.kid i) a → Calls Tryd.prog 22 #[.agg #[.int .i64 (t.kid i).kind, .int .i64 (t.kid i).num, .slice a (t.kid i).cnt cap]] w fun e w' => e = .returned (.int .i64 (sz (t.kid i))) ∧ Below w.heap.size w w') := ih
  have HZ := hid (sz_eq t)
  have HSZ := hid hsz
  obtain ⟨u, hu⟩ : ∃ y, y = w.alloc (.cells #[.int .i64 t.kind, .int .i64 t.num, .slice a t.cnt cap] 24) := ⟨_, rfl⟩
  have hB : Below w.heap.size w u := by rw [hu]; exact box_below _ _
  have hT : Tri u w.heap.size (.int .i64 t.kind) (.int .i64 t.num) (.slice a t.cnt cap) := by rw [hu]; exact tri_new _ _ _ _
  have HU := hid hu
  generalize sz t = s at *
  generalize t.kid = kid at *
  generalize t.kind = k at *
  generalize t.num = n at *
  generalize t.cnt = c at *
  have HS : Hid (Below w.heap.size w u ∧ Tri u w.heap.size (.int .i64 k) (.int .i64 n) (.slice a c cap)) := ⟨hB, hT⟩
  clear hu hB hT ih hk ha hkid hsz
  go_enter Tryd.func22, Tryd.ntmps22
  go_wp2
  rw [← HU.out]
  clear HU
  go_loopw [3, 4] (fun v i wr => ∃ j : Nat, j ≤ c ∧ i = .int .i64 j ∧ v = .int .i64 ((1 + sumTo (fun i => sz (kid i)) j : Nat) : Int) ∧ Hid (Below w.heap.size w wr ∧ Tri wr w.heap.size (.int .i64 k) (.int .i64 n) (.slice a c cap))) (fun _ i _ => c - (intOf i).toNat)
  case atStart => exact ⟨0, Nat.zero_le _, rfl, rfl, HS⟩
  case round =>
    obtain ⟨j, hj, rfl, rfl, HJ⟩ := hrel
    clear HS
    obtain ⟨-, -, sv⟩ := (tri_cells HJ.out.2).1
    by_cases hlt : j < c
    · obtain rfl := HA.out (by omega)
      obtain ⟨ai, ci, p1, p2, p3, p4, p5⟩ := HK.out j hlt
      have y1 := below_cell HJ.out.1 (Nat.le_refl _) p1
      have y2 := below_cell HJ.out.1 (Nat.le_refl _) p2
      have y3 := below_cell HJ.out.1 (Nat.le_refl _) p3
      have hjz : (j : Int) < c := by omega
      have HNx : Hid (sumTo (fun i => sz (kid i)) (j + 1) = sumTo (fun i => sz (kid i)) j + sz (kid j)) := hid rfl
      have hle : sumTo (fun i => sz (kid i)) (j + 1) ≤ 1000 := by
        have h1 := sumTo_to (f := fun i => sz (kid i)) (n := j + 1) (m := c) (by omega)
        have h2 := HZ.out
        have h3 := HSZ.out
        omega
      have C := hid (HIH.out j hlt (by have := HNx.out; omega) p4 ai ci wr (p5.below HJ.out.1))
      obtain ⟨kk, hkk⟩ : ∃ y, y = kid j := ⟨_, rfl⟩
      obtain ⟨z, hz⟩ : ∃ y, y = sz (kid j) := ⟨_, rfl⟩
      obtain ⟨q0, hq0⟩ : ∃ y, y = sumTo (fun i => sz (kid i)) j := ⟨_, rfl⟩
      rw [← hz, ← hkk] at C
      rw [← hkk] at y1 y2 y3
      have HQ : Hid (sumTo (fun i => sz (kid i)) (j + 1) = q0 + z) := by rw [hq0, hz]; exact HNx
      have hz0 : q0 + z ≤ 1000 := by rw [← HQ.out]; exact hle
      have hz2 : (1 : Int) + q0 + z ≤ 9223372036854775807 := by omega
      rw [← hq0]
      clear hz hq0 hkk HNx
      clear p1 p2 p3 p4 p5 hle
      go_wp2_with fail
      refine C.out.mono ?_
      rintro e w2 ⟨rfl, hb2⟩
      have H2 : Hid (Below w.heap.size w w2 ∧ Tri w2 w.heap.size (.int .i64 k) (.int .i64 n) (.slice (some ⟨b, o, none⟩) c cap)) := ⟨HJ.out.1.trans (hb2.mono HJ.out.1.size), HJ.out.2.below hb2⟩
      clear hb2 C y1 y2 y3 sv HJ
      go_wp2
      go_roundw
      case rel =>
        refine ⟨j + 1, by omega, by go_num, ?_, H2⟩
        rw [HQ.out]
        first | rfl | (congr 1; omega) | go_num
      case measure => simp [intOf]; omega
    · obtain rfl : j = c := by omega
      go_wp2
      go_ret
      refine ⟨ret_int ?_, HJ.out.1⟩
      have := HZ.out
      omega

end Go.Proofs.YtinacgkiigbmjaaDoor
