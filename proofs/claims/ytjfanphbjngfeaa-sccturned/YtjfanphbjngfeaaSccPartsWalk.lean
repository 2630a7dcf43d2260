/- The law SccParts, by the contracts of what it calls. -/
import Derived.Test.YtjfanphbjngfeaaParts
import Derived.Test.YtjfanphbjngfeaaSccJoinedWalk
import Derived.Test.YtjfanphbjngfeaaWayWalk2
namespace Go.Proofs.Ytjfanphbjngfeaa
open Go.RowKit

theorem cs_mono (ml : Nat → Nat) {m n : Nat} (h : m ≤ n) : cs ml m ≤ cs ml n := by
  induction n with
  | zero => have : m = 0 := by omega
            subst this; exact Nat.le_refl _
  | succ n ih =>
    by_cases e : m = n + 1
    · subst e; exact Nat.le_refl _
    · have := ih (by omega)
      simp only [cs]
      omega

theorem cs_up {ml : Nat → Nat} {m n : Nat} (hm : ml m = m) (h : m < n) : cs ml m + 1 ≤ cs ml n := by
  have h1 := cs_mono ml (m := m + 1) (n := n) (by omega)
  simp only [cs] at h1
  rw [if_pos hm] at h1
  omega

section
variable {G : Nat} {L : Nat → Nat} {Z : Nat → Nat → Int} {ml : Nat → Nat}
theorem IsParts.le (h : IsParts G L Z ml) {x : Nat} (hx : x < G) : ml x ≤ x := ((h x hx).2.2 x hx ⟨Rch.refl _, Rch.refl _⟩).2
theorem IsParts.idem (h : IsParts G L Z ml) {x : Nat} (hx : x < G) : ml (ml x) = ml x := ((h x hx).2.2 (ml x) (h x hx).1 (h x hx).2.1).1
theorem IsParts.eq_iff (h : IsParts G L Z ml) {x y : Nat} (hx : x < G) (hy : y < G) : cs ml (ml x) = cs ml (ml y) ↔ Mut (Ego G L Z) x y := by
  constructor
  · intro e
    have hm : ml x = ml y := by
      rcases Nat.lt_trichotomy (ml x) (ml y) with h1 | h1 | h1
      · have := cs_up (h.idem hx) h1; omega
      · exact h1
      · have := cs_up (h.idem hy) h1; omega
    have h1 := (h x hx).2.1
    have h2 := (h y hy).2.1
    rw [← hm] at h2
    exact ⟨h1.1.trans h2.2, h2.1.trans h1.2⟩
  · intro e
    rw [((h x hx).2.2 y hy e).1]
theorem IsParts.next (h : IsParts G L Z ml) {x : Nat} (hx : x < G) : cs ml (ml x) ≤ cs ml x ∧ cs ml (x + 1) = max (cs ml x) (cs ml (ml x) + 1) := by
  have h1 := h.le hx
  refine ⟨cs_mono ml h1, ?_⟩
  simp only [cs]
  by_cases e : ml x = x
  · rw [if_pos e, e]
    omega
  · rw [if_neg e]
    have := cs_up (h.idem hx) (n := x) (by omega)
    omega
end

theorem comes_one {G : Nat} {L : Nat → Nat} {Z : Nat → Nat → Int} {a b : Nat} : Comes G L Z 1 (fun _ => (a : Int)) b ↔ Rch (Ego G L Z) a b := by
  unfold Comes Rch
  rw [ed_ego, src_eq]
  have : (fun x : Nat => ∃ i : Nat, i < 1 ∧ (a : Int) = (x : Int)) = fun x => x = a := by
    funext x
    rw [eq_iff_iff]
    constructor
    · rintro ⟨_, _, e⟩; omega
    · intro e; exact ⟨0, by omega, by omega⟩
  rw [this]

theorem errF_one {G : Nat} {L : Nat → Nat} {Z : Nat → Nat → Int} (h : errG G L Z = 0) {a : Nat} (ha : a < G) : errF G L Z 1 (fun _ => (a : Int)) = 0 := by
  unfold errF
  rw [if_pos h, if_pos (allIn_yes (fun i _ => ⟨by omega, by omega⟩))]

/-- The graph that the law begins with: one may go from 0 to 1 and back, and from 2 to itself. -/
def litZ (r : Nat) : Nat → Int := fun _ => if r = 0 then 1 else if r = 1 then 0 else 2

theorem litP_gr (w : World) : Gr ((((w.alloc (.cells #[.int .i64 1] 3)).alloc (.cells #[.int .i64 0] 3)).alloc (.cells #[.int .i64 2] 3)).alloc (.cells #[.slice (some ⟨w.heap.size, 0, none⟩) 1 1, .slice (some ⟨w.heap.size + 1, 0, none⟩) 1 1, .slice (some ⟨w.heap.size + 1 + 1, 0, none⟩) 1 1] 30))
    (some ⟨w.heap.size + 1 + 1 + 1, 0, none⟩) 3 (fun _ => 1) litZ := by
  have h1 := rowIs_lit w #[.int .i64 1] 3 w.heap.size 1 (fun _ => .int .i64 1) rfl rfl (one_get _)
  have h2 := rowIs_lit (w.alloc (.cells #[.int .i64 1] 3)) #[.int .i64 0] 3 (w.heap.size + 1) 1 (fun _ => .int .i64 0) (by simp) rfl (one_get _)
  have h3 := rowIs_lit ((w.alloc (.cells #[.int .i64 1] 3)).alloc (.cells #[.int .i64 0] 3)) #[.int .i64 2] 3 (w.heap.size + 1 + 1) 1 (fun _ => .int .i64 2) (by simp) rfl (one_get _)
  have h4 := rowIs_lit (((w.alloc (.cells #[.int .i64 1] 3)).alloc (.cells #[.int .i64 0] 3)).alloc (.cells #[.int .i64 2] 3))
    #[.slice (some ⟨w.heap.size, 0, none⟩) 1 1, .slice (some ⟨w.heap.size + 1, 0, none⟩) 1 1, .slice (some ⟨w.heap.size + 1 + 1, 0, none⟩) 1 1] 30 (w.heap.size + 1 + 1 + 1) 3
    (fun i => .slice (some ⟨w.heap.size + i, 0, none⟩) 1 1) (by simp) rfl (fun i hi => by
      match i, hi with
      | 0, _ => rfl
      | 1, _ => rfl
      | 2, _ => rfl)
  refine ⟨w.heap.size + 1 + 1 + 1, 0, fun _ => rfl, fun r hr => ⟨some ⟨w.heap.size + r, 0, none⟩, 1, by rw [Nat.zero_add]; exact h4.cell hr, ?_⟩⟩
  match r, hr with
  | 0, _ => exact row_of_rowIs (((h1.alloc _).alloc _).alloc _)
  | 1, _ => exact row_of_rowIs ((h2.alloc _).alloc _)
  | 2, _ => exact row_of_rowIs (h3.alloc _)

theorem litP_err : errG 3 (fun _ => 1) litZ = 0 := by decide

theorem litP_parts {ml : Nat → Nat} (h : IsParts 3 (fun _ => 1) litZ ml) (i : Nat) (hi : i < 3) : partNo ml i = if i = 2 then 1 else 0 := by
  have e01 : Ego 3 (fun _ => 1) litZ 0 1 := ⟨by omega, 0, Nat.zero_lt_one, rfl⟩
  have e10 : Ego 3 (fun _ => 1) litZ 1 0 := ⟨by omega, 0, Nat.zero_lt_one, rfl⟩
  have no : ∀ a, a < 2 → ¬ Rch (Ego 3 (fun _ => 1) litZ) a 2 := fun a ha hr => by
    have := hr.stay (P := fun x => x < 2) (fun x y hx ⟨_, i, _, e⟩ => by
      match x, hx with
      | 0, _ => have e' : (1 : Int) = y := e
                omega
      | 1, _ => have e' : (0 : Int) = y := e
                omega) ha
    omega
  have m0 : ml 0 = 0 := by have := h.le (x := 0) (by omega); omega
  have m1 : ml 1 = 0 := by rw [((h 0 (by omega)).2.2 1 (by omega) ⟨Rch.edge e01, Rch.edge e10⟩).1]; exact m0
  have m2 : ml 2 = 2 := by
    have h1 := h.le (x := 2) (by omega)
    have h2 := (h 2 (by omega)).2.1.2
    by_cases e : ml 2 = 2
    · exact e
    · exact absurd h2 (no _ (by omega))
  match i, hi with
  | 0, _ => simp [partNo, m0, cs]
  | 1, _ => simp [partNo, m1, cs]
  | 2, _ => simp [partNo, m2, cs, m0, m1]

theorem tri_int (i : Nat) (hi : i < 3) : (#[.int .i64 0, .int .i64 0, .int .i64 1] : Array Value)[i]? = some (.int .i64 (if i = 2 then 1 else 0)) := by
  match i, hi with
  | 0, _ => rfl
  | 1, _ => rfl
  | 2, _ => rfl

theorem below_litP (w : World) : Below w.heap.size w ((((w.alloc (.cells #[.int .i64 1] 3)).alloc (.cells #[.int .i64 0] 3)).alloc (.cells #[.int .i64 2] 3)).alloc (.cells #[.slice (some ⟨w.heap.size, 0, none⟩) 1 1, .slice (some ⟨w.heap.size + 1, 0, none⟩) 1 1, .slice (some ⟨w.heap.size + 1 + 1, 0, none⟩) 1 1] 30)) :=
  ((((Below.refl _ _).alloc (Nat.le_refl _) _).alloc (by simp) _).alloc (by simp; omega) _).alloc (by simp; omega) _

set_option maxHeartbeats 1000000 in
set_option maxRecDepth 20000 in
theorem sccParts_walk (ga : Option Addr) (G gc : Nat) (L : Nat → Nat) (Z : Nat → Nat → Int) (w : World)
    (hL : ∀ r, r < G → L r ≤ 140737488355328) (h : Gr w ga G L Z) :
    Calls Try.prog 6 #[.slice ga G gc] w fun e w' => e = .returned (.bool true) ∧ Below w.heap.size w w' := by
  have HL : Hid (∀ r, r < G → L r ≤ 140737488355328) := hL
  have HG : Hid (Gr w ga G L Z) := h
  clear hL h
  go_enter Try.func6, Try.ntmps6
  go_wp2_with fail
  refine (parts_ok _ (some ⟨w.heap.size + 1 + 1 + 1, 0, none⟩) 3 3 (fun _ => 1) litZ (fun r hr => by omega) (litP_gr w) litP_err).mono ?_
  rintro e w1 ⟨pb1, ml1, rfl, hbel1, hb1, hrow1, hIP1⟩
  have HW1 : Hid (Below w.heap.size w w1) := (below_litP w).trans (hbel1.mono (by simp; omega))
  have HR1 : Hid (Row w1 (some ⟨pb1, 0, none⟩) 3 (fun i => if i = 2 then 1 else 0)) := row_of_rowIs (hrow1.congr (fun i hi => by rw [litP_parts hIP1 i hi]))
  clear hbel1 hb1 hrow1 hIP1
  go_wp2_with fail
  have HR2 : Hid (Row (w1.alloc (.cells #[.int .i64 0, .int .i64 0, .int .i64 1] 3)) (some ⟨w1.heap.size, 0, none⟩) 3 (fun i => if i = 2 then 1 else 0)) := row_of_rowIs (rowIs_lit w1 _ 3 _ 3 _ rfl rfl tri_int)
  have C16 := equal_any (some ⟨pb1, 0, none⟩) (some ⟨w1.heap.size, 0, none⟩) 3 3 3 3 _ _ _ (by omega) (HR1.out.below ((Below.refl _ _).alloc (Nat.le_refl _) _)) HR2.out
  rw [same_yes rfl (fun _ _ => rfl)] at C16
  refine C16.mono ?_
  rintro e w3 ⟨rfl, q, hw3⟩
  have HW3 : Hid (Below w.heap.size w w3) := by rw [hw3]; exact below_drewN' (HW1.out.alloc HW1.out.size _) q
  clear hw3 C16 HR1 HR2 HW1
  by_cases hS : G ≤ 120
  · go_wp2_with fail
    have C23 := small_any ga G gc w3
    rw [decide_eq_true hS] at C23
    refine C23.mono ?_
    rintro e w3' ⟨rfl, rfl⟩
    clear C23
    by_cases hE : errG G L Z = 0
    · have HE : Hid (errG G L Z = 0) := hE
      clear hE
      go_wp2_with fail
      refine (parts_ok _ ga G gc L Z HL.out (HG.out.below HW3.out) HE.out).mono ?_
      rintro e w4 ⟨pb, ml, rfl, hbel4, hb4, hrow4, hIP⟩
      have HW4 : Hid (Below w.heap.size w w4) := HW3.out.trans (hbel4.mono HW3.out.size)
      have HP : Hid (∀ k, k < G → w4.cell? ⟨pb, k, none⟩ = some (.int .i64 (cs ml (ml k) : Nat))) := fun k hk => hrow4.cell hk
      have HI : Hid (IsParts G L Z ml) := hIP
      clear hbel4 hb4 hrow4 hIP HW3
      go_wp2
      go_loopw [7, 51] (fun nx i wr => ∃ k : Nat, k ≤ G ∧ i = .int .i64 k ∧ nx = .int .i64 (cs ml k : Nat) ∧ Hid (Below w4.heap.size w4 wr)) (fun _ i _ => G - (intOf i).toNat)
      case atStart => exact ⟨0, Nat.zero_le _, rfl, rfl, hid (Below.refl _ _)⟩
      case round =>
        obtain ⟨k, hk, rfl, rfl, HB⟩ := hrel
        by_cases hlt : k < G
        · have hkz : (k : Int) < G := by omega
          have hck := cs_le ml k
          have HN : Hid (cs ml (ml k) ≤ cs ml k ∧ cs ml (k + 1) = max (cs ml k) (cs ml (ml k) + 1)) := HI.out.next hlt
          have HPK : Hid (cs ml (ml k) = cs ml (ml k)) := rfl
          go_wp2_with fail
          refine (reach_ok ga G gc L Z (some ⟨wr.heap.size, 0, none⟩) 1 1 (fun _ => (k : Int)) _ HL.out (by omega) (HG.out.below ((HW4.out.trans (HB.out.mono HW4.out.size)).alloc (HW4.out.trans (HB.out.mono HW4.out.size)).size _)) (lit_row _ _ _ rfl) (errF_one HE.out hlt)).mono ?_
          rintro e w5 ⟨b5, R5, rfl, hbel5, hb5, hrow5, hR5⟩
          have HB5 : Hid (Below w4.heap.size w4 w5) := (HB.out.alloc HB.out.size _).trans (hbel5.mono (by have := HB.out.size; simp; omega))
          have HX5 : Hid (∀ x, x < G → w5.cell? ⟨b5, x, none⟩ = some (.bool (R5 x))) := fun x hx => hrow5.cell hx
          have HR5 : Hid (∀ x, x < G → (R5 x = true ↔ Rch (Ego G L Z) k x)) := fun x hx => (hR5 x hx).trans comes_one
          clear hbel5 hb5 hrow5 hR5 HB
          go_wp2
          go_loopw [62] (fun i wr => ∃ j : Nat, j ≤ k ∧ i = .int .i64 j ∧ Hid (Below w5.heap.size w5 wr)) (fun i _ => k - (intOf i).toNat)
          case atStart => exact ⟨0, Nat.zero_le _, rfl, hid (Below.refl _ _)⟩
          case round =>
            obtain ⟨j, hj, rfl, HB⟩ := hrel
            by_cases hjl : j < k
            · have hjz : (j : Int) < k := by omega
              have hjG : (j : Int) < G := by omega
              have HB4 : Hid (Below w4.heap.size w4 wr) := HB5.out.trans (HB.out.mono HB5.out.size)
              go_wp2_with fail
              refine (reach_ok ga G gc L Z (some ⟨wr.heap.size, 0, none⟩) 1 1 (fun _ => (j : Int)) _ HL.out (by omega) (HG.out.below ((HW4.out.trans (HB4.out.mono HW4.out.size)).alloc (HW4.out.trans (HB4.out.mono HW4.out.size)).size _)) (lit_row _ _ _ rfl) (errF_one HE.out (by omega))).mono ?_
              rintro e w6 ⟨b6, R6, rfl, hbel6, hb6, hrow6, hR6⟩
              have HB6 : Hid (Below w5.heap.size w5 w6) := (HB.out.alloc HB.out.size _).trans (hbel6.mono (by have := HB.out.size; simp; omega))
              have hb46 : Below w4.heap.size w4 w6 := HB5.out.trans (HB6.out.mono HB5.out.size)
              have hr6 : R6 k = true ↔ Rch (Ego G L Z) j k := (hR6 k hlt).trans comes_one
              have hr5 := HR5.out j (by omega)
              have hpp := HI.out.eq_iff (x := k) (y := j) hlt (by omega)
              have hpk : w6.cell? ⟨pb, k, none⟩ = some (.int .i64 (cs ml (ml k) : Nat)) := cells_below (f := fun k => .int .i64 (cs ml (ml k) : Nat)) HP.out hb46 k hlt
              have hpj : w6.cell? ⟨pb, j, none⟩ = some (.int .i64 (cs ml (ml j) : Nat)) := cells_below (f := fun k => .int .i64 (cs ml (ml k) : Nat)) HP.out hb46 j (by omega)
              have hx5 : w6.cell? ⟨b5, j, none⟩ = some (.bool (R5 j)) := cells_below (f := fun k => .bool (R5 k)) HX5.out HB6.out j (by omega)
              have hx6 : w6.cell? ⟨b6, k, none⟩ = some (.bool (R6 k)) := hrow6.cell hlt
              have hpq : (((cs ml (ml k) : Nat) : Int) == ((cs ml (ml j) : Nat) : Int)) = (R5 j && R6 k) := by
                rw [Bool.eq_iff_iff, beq_iff_eq, Int.ofNat_inj, hpp, Bool.and_eq_true, hr5, hr6]
                rfl
              clear hbel6 hb6 hrow6 hR6 hr6 hr5 hpp hb46 HB4 HB
              generalize cs ml (ml k) = pk at *
              generalize cs ml (ml j) = pj at *
              cases h5 : R5 j
              · rw [h5] at hx5 hpq
                simp only [Bool.false_and] at hpq
                clear h5
                go_wp2
                go_quiet (fail)
                go_wp2
                go_roundw
                case rel => exact ⟨j + 1, by omega, by go_num, hid (below_drewN' HB6.out _)⟩
                case measure => simp [intOf]; omega
              · cases h6 : R6 k
                all_goals
                  rw [h5, h6] at hpq
                  rw [h5] at hx5
                  rw [h6] at hx6
                  simp only [Bool.true_and] at hpq
                  clear h5 h6
                  go_wp2
                  go_quiet (fail)
                  go_wp2
                  go_roundw
                  case rel => exact ⟨j + 1, by omega, by go_num, hid (below_drewN' HB6.out _)⟩
                  case measure => simp [intOf]; omega
            · have HB4 : Hid (Below w4.heap.size w4 wr) := HB5.out.trans (HB.out.mono HB5.out.size)
              have hpk : wr.cell? ⟨pb, k, none⟩ = some (.int .i64 (cs ml (ml k) : Nat)) := cells_below (f := fun k => .int .i64 (cs ml (ml k) : Nat)) HP.out HB4.out k hlt
              have hle := HN.out.1
              have HM : Hid (cs ml (k + 1) = max (cs ml k) (cs ml (ml k) + 1)) := HN.out.2
              clear HN HPK HB HB5
              generalize cs ml (ml k) = pk at *
              generalize cs ml k = ck at *
              have hz : ¬ (ck : Int) < pk := by omega
              go_wp2
              go_roundw
              case rel => exact ⟨k + 1, by omega, by go_num, by rw [HM.out]; congr 1; split <;> omega, HB4⟩
              case measure => simp [intOf]; omega
        · go_wp2
          go_ret
          exact ⟨rfl, HW4.out.trans (HB.out.mono HW4.out.size)⟩
    · obtain ⟨E, hEE⟩ : ∃ E, errG G L Z = E := ⟨_, rfl⟩
      have hE0 : E ≠ 0 := by rw [← hEE]; exact hE
      have hz1 : (E != 0) = true := by rw [bne_iff_ne]; exact hE0
      have hz2 : (E == E) = true := by simp
      have H4 : Hid (errG G L Z = E ∧ E ≠ 0) := ⟨hEE, hE0⟩
      clear hEE hE hE0
      go_wp2_with fail
      refine (parts_bad _ ga G gc L Z HL.out (HG.out.below HW3.out) E H4.out.1 H4.out.2).mono ?_
      rintro e w4 ⟨rfl, rfl⟩
      go_wp2_with fail
      have C11 := check_any ga G gc L Z _ HL.out (HG.out.below HW3.out)
      rw [H4.out.1] at C11
      refine C11.mono ?_
      rintro e w5 ⟨rfl, rfl⟩
      clear C11
      go_wp2
      go_ret
      exact ⟨rfl, HW3.out⟩
  · go_wp2_with fail
    have C23 := small_any ga G gc w3
    rw [decide_eq_false hS] at C23
    refine C23.mono ?_
    rintro e w3' ⟨rfl, rfl⟩
    go_wp2
    go_ret
    exact ⟨rfl, HW3.out⟩

end Go.Proofs.Ytjfanphbjngfeaa
