/- world.goingOn: in which parts one can go on. The document's Every and Marked. -/
import Derived.Test.YtgahdclbaifcbaaScParts
import Derived.Test.YtgahdclbaifcbaaChw
import Derived.Test.YtgahdclbaifcbaaGdp
namespace Go.Proofs.Ytgahdclbaifcbaa
open Go.RowKit

/-- A part in which one can go on, as far as the rows to k and j places of row k tell. -/
def On (L : Nat → Nat) (Z : Nat → Nat → Int) (p : Nat → Nat) (k j q : Nat) : Prop :=
  (∃ s, s < k ∧ ∃ i, i < L s ∧ p (Z s i).toNat = p s ∧ p s = q) ∨ ∃ i, i < j ∧ p (Z k i).toNat = p k ∧ p k = q

theorem on_next {L : Nat → Nat} {Z : Nat → Nat → Int} {p : Nat → Nat} {k q : Nat} : On L Z p (k + 1) 0 q ↔ On L Z p k (L k) q := by
  constructor
  · rintro (⟨s, hs, i, hi, h⟩ | ⟨i, hi, _⟩)
    · by_cases e : s = k
      · subst e
        exact Or.inr ⟨i, hi, h⟩
      · exact Or.inl ⟨s, by omega, i, hi, h⟩
    · omega
  · rintro (⟨s, hs, i, hi, h⟩ | ⟨i, hi, h⟩)
    · exact Or.inl ⟨s, by omega, i, hi, h⟩
    · exact Or.inl ⟨k, by omega, i, hi, h⟩
theorem on_yes {L : Nat → Nat} {Z : Nat → Nat → Int} {p : Nat → Nat} {k j q : Nat} (h : p (Z k j).toNat = p k) : On L Z p k (j + 1) q ↔ q = p k ∨ On L Z p k j q := by
  constructor
  · rintro (h1 | ⟨i, hi, h1, h2⟩)
    · exact Or.inr (Or.inl h1)
    · by_cases e : i = j
      · exact Or.inl h2.symm
      · exact Or.inr (Or.inr ⟨i, by omega, h1, h2⟩)
  · rintro (rfl | h1 | ⟨i, hi, h1, h2⟩)
    · exact Or.inr ⟨j, by omega, h, rfl⟩
    · exact Or.inl h1
    · exact Or.inr ⟨i, by omega, h1, h2⟩
theorem on_no {L : Nat → Nat} {Z : Nat → Nat → Int} {p : Nat → Nat} {k j q : Nat} (h : p (Z k j).toNat ≠ p k) : On L Z p k (j + 1) q ↔ On L Z p k j q := by
  constructor
  · rintro (h1 | ⟨i, hi, h1, h2⟩)
    · exact Or.inl h1
    · by_cases e : i = j
      · subst e; exact absurd h1 h
      · exact Or.inr ⟨i, by omega, h1, h2⟩
  · rintro (h1 | ⟨i, hi, h1, h2⟩)
    · exact Or.inl h1
    · exact Or.inr ⟨i, by omega, h1, h2⟩

/-- A row of marks that tells P. -/
def Mk4 (w wr : World) (b G : Nat) (P : Nat → Prop) : Prop :=
  Below w.heap.size w wr ∧ w.heap.size ≤ b ∧ ∃ R : Nat → Bool, wr.rowIs b 4 G (fun x => .bool (R x)) ∧ ∀ q, q < G → (R q = true ↔ P q)

theorem Mk4.congr {w wr : World} {b G : Nat} {P Q : Nat → Prop} (h : Mk4 w wr b G P) (e : ∀ q, q < G → (Q q ↔ P q)) : Mk4 w wr b G Q := by
  obtain ⟨h1, h2, R, h3, h4⟩ := h
  exact ⟨h1, h2, R, h3, fun q hq => (h4 q hq).trans (e q hq).symm⟩
theorem Mk4.set {w wr : World} {b G t : Nat} {P : Nat → Prop} (h : Mk4 w wr b G P) (x : Bool) : Mk4 w (wr.setCell ⟨b, t, none⟩ (.bool x)) b G (fun q => if q = t then x = true else P q) := by
  obtain ⟨h1, h2, R, h3, h4⟩ := h
  refine ⟨h1.setCell (by simpa using h2) _, h2, fun q => if q = t then x else R q, (h3.set t _).congr (fun i hi => ?_), fun q hq => ?_⟩
  · by_cases e : i = t
    · subst e; simp
    · simp [e]
  · by_cases e : q = t
    · subst e; simp
    · simp [e, h4 q hq]
theorem Mk4.cell {w wr : World} {b G t : Nat} {P : Nat → Prop} (h : Mk4 w wr b G P) (ht : t < G) : ∃ x, wr.cell? ⟨b, t, none⟩ = some (.bool x) ∧ wr.frozen? ⟨b, t, none⟩ = false ∧ (x = true ↔ P t) := by
  obtain ⟨h1, h2, R, h3, h4⟩ := h
  exact ⟨R t, h3.cell ht, h3.frozen t, h4 t ht⟩
theorem Mk4.below {w wr w2 : World} {b G : Nat} {P : Nat → Prop} (h : Mk4 w wr b G P) (h2 : Below wr.heap.size wr w2) : Mk4 w w2 b G P := by
  obtain ⟨h1, h3, R, h4, h5⟩ := h
  exact ⟨h1.trans (h2.mono h1.size), h3, R, h4.of_block (h2.block _ h4.lt), h5⟩

theorem Mk4.drew {w wr : World} {b G : Nat} {P : Nat → Prop} (h : Mk4 w wr b G P) : Mk4 w wr.drew b G P := by
  obtain ⟨h1, h3, R, h4, h5⟩ := h
  exact ⟨h1.trans (below_drewN (Below.refl _ _) 1), h3, R, h4, h5⟩

set_option maxHeartbeats 1000000 in
theorem goingOn_any (A : Wx) (pb : Nat) (p : Nat → Nat) (w : World) (h : Ww w A) (h0 : chkW A = 0) (hp : ∀ x, x < A.G → p x < A.G) (hr : ∀ x, x < A.G → w.cell? ⟨pb, x, none⟩ = some (.int .i64 (p x : Nat))) :
    Calls Try.prog 51 #[.agg #[.slice A.sa A.sn A.sc, .slice A.na A.G A.nc, .slice A.la A.M A.lc, .slice A.fa A.K A.fc], .slice (some ⟨pb, 0, none⟩) A.G A.G] w fun e w' => ∃ b, e = .returned (.slice (some ⟨b, 0, none⟩) A.G A.G) ∧ Hid (Mk4 w w' b A.G (On A.L A.Z p A.G 0)) := by
  obtain ⟨W1, hW1, hb1, hs1, hbw⟩ := boxw w A
  obtain ⟨hG, -, -, -, -, hz, -⟩ := chkW_ok h0
  have hmk := run_make_row' (P := Try.prog) 29 4 (.bool false) 1 Try.underlying29 Try.info4 rfl .i64 .i64 A.G (by omega) (by omega)
  obtain ⟨nb, no, hna, hnc⟩ := (h.below hb1).next
  have HC := hid hnc
  have HB1 := hid hb1
  have HZ := hid hz
  have HL := hid h.l47
  have HP := hid hp
  have HR := hid (fun x hx => below_cell hb1 (Nat.le_refl _) (hr x hx))
  obtain ⟨q0, q1, q2, q3⟩ := hbw
  have q1n : 0 < A.G → A.na = some ⟨nb, no, none⟩ := hna
  have HQN := hid q1n
  have q1b := below_cell (box_below W1 (.cells (madeCells #[.bool false] A.G) 4)) (Nat.le_refl _) q1
  clear hnc hb1 hs1 h h0 hz q1n hna hp hr
  obtain ⟨sa, sn, sc, na, G, nc, la, M, lc, fa, K, fc, S, L, Z, Lb, FL, FZ⟩ := A
  dsimp only at *
  go_enter Try.func51, Try.ntmps51
  go_wp2
  clear hmk
  have HL0 : Hid (Mk4 W1 (W1.alloc (.cells (madeCells #[.bool false] G) 4)) W1.heap.size G (On L Z p 0 0)) := hid ⟨box_below _ _, Nat.le_refl _, fun _ => false, (World.rowIs_made W1 (.bool false) G 4), fun q hq => ⟨fun e => (by cases e), fun e => (by rcases e with ⟨s, hs, _⟩ | ⟨i, hi, _⟩ <;> omega)⟩⟩
  clear q0 q1 q2 q3 q1b
  go_loopw [16] (fun i wr => ∃ k : Nat, k ≤ G ∧ i = .int .i64 k ∧ Hid (Mk4 W1 wr W1.heap.size G (On L Z p k 0))) (fun i _ => G - (intOf i).toNat)
  case atStart => exact ⟨0, Nat.zero_le _, rfl, HL0⟩
  case round =>
    obtain ⟨r, hr, rfl, H⟩ := hrel
    clear HL0
    by_cases hlt : r < G
    · obtain rfl := HQN.out (by omega)
      obtain ⟨a, c, hck0, hrow0⟩ := HC.out r hlt
      have hck := below_cell H.out.1 (Nat.le_refl _) hck0
      have HRw := hid hrow0
      have hLr := HL.out r hlt
      clear hrow0 hck0
      go_wp2
      go_loopw [23] (fun i wi => ∃ k : Nat, k ≤ L r ∧ i = .int .i64 k ∧ Hid (Mk4 W1 wi W1.heap.size G (On L Z p r k))) (fun i _ => L r - (intOf i).toNat)
      case atStart => exact ⟨0, Nat.zero_le _, rfl, H⟩
      case round =>
        clear H hck
        obtain ⟨k, hk, rfl, H⟩ := hrel
        by_cases hlk : k < L r
        · obtain ⟨b', o', ha', hc'⟩ := HRw.out
          obtain rfl := ha' (by omega)
          obtain ⟨t, ht⟩ : ∃ t : Nat, Z r k = t := ⟨(Z r k).toNat, by have := HZ.out r hlt k hlk; omega⟩
          have htG : t < G := by have := HZ.out r hlt k hlk; omega
          have htz : (t : Int) < G := by omega
          have hrz : (r : Int) < G := by omega
          have hcell := below_cell H.out.1 (Nat.le_refl _) (hc' k hlk)
          rw [ht] at hcell
          have hct := below_cell H.out.1 (Nat.le_refl _) (HR.out t htG)
          have hcr := below_cell H.out.1 (Nat.le_refl _) (HR.out r hlt)
          have hprG := HP.out r hlt
          have hpz : ((p r : Nat) : Int) < G := by omega
          obtain ⟨x, hx1, hx2, _⟩ := H.out.cell hprG
          have HT : Hid ((Z r k).toNat = t) := hid (by omega)
          clear ht hc' ha'
          by_cases he : p t = p r
          · have HE : Hid (p (Z r k).toNat = p r) := hid (by rw [HT.out]; exact he)
            have HM : Hid (Mk4 W1 (wr.setCell ⟨W1.heap.size, p r, none⟩ (.bool true)) W1.heap.size G (On L Z p r (k + 1))) := hid ((H.out.set (t := p r) true).congr (fun q _ => (on_yes HE.out).trans (by by_cases e : q = p r <;> simp [e])))
            rw [he] at hct
            generalize p r = u at *
            clear he
            go_wp2
            go_region
            go_wp2
            go_roundw
            case rel => exact ⟨k + 1, by omega, by go_num, hid HM.out.drew⟩
            case measure => simp [intOf]; omega
          · have HM : Hid (Mk4 W1 wr W1.heap.size G (On L Z p r (k + 1))) := hid (H.out.congr (fun q _ => on_no (by rw [HT.out]; exact he)))
            have ge : (((p t : Nat) : Int) == ((p r : Nat) : Int)) = false := beq_eq_false_iff_ne.2 (by omega)
            generalize p r = u at *
            generalize p t = v at *
            clear he
            go_wp2
            go_region
            go_wp2
            go_roundw
            case rel => exact ⟨k + 1, by omega, by go_num, hid HM.out.drew⟩
            case measure => simp [intOf]; omega
        · go_wp2
          obtain rfl : k = L r := by omega
          go_roundw
          case rel => exact ⟨r + 1, by omega, by go_num, hid (H.out.congr (fun q _ => on_next))⟩
          case measure => simp [intOf]; omega
    · go_wp2
      obtain rfl : r = G := by omega
      go_ret
      exact ⟨_, rfl, hid ⟨HB1.out.trans (H.out.1.mono HB1.out.size), HB1.out.size, H.out.2.2⟩⟩

end Go.Proofs.Ytgahdclbaifcbaa

namespace Go.Proofs.Ytgahdclbaifcbaa
open Go.RowKit

set_option maxHeartbeats 1000000 in
theorem every_any (n : Nat) (w : World) (hn : n ≤ 600) :
    Calls Try.prog 12 #[.int .i64 (n : Nat)] w fun e w' => e = .returned (.slice (some ⟨w.heap.size, 0, none⟩) n n) ∧ Hid (w'.rowIs w.heap.size 4 n (fun _ => .bool true) ∧ Below w.heap.size w w') := by
  have hmk := run_make_row' (P := Try.prog) 29 4 (.bool false) 1 Try.underlying29 Try.info4 rfl .i64 .i64 n (by omega) (by omega)
  go_enter Try.func12, Try.ntmps12
  go_wp2
  clear hmk
  go_loopw [4] (fun i wr => ∃ k : Nat, k ≤ n ∧ i = .int .i64 k ∧ Hid (Below w.heap.size w wr ∧ wr.rowIs w.heap.size 4 n (fun x => .bool (decide (x < k))))) (fun i _ => n - (intOf i).toNat)
  case atStart => exact ⟨0, Nat.zero_le _, rfl, hid ⟨box_below _ _, (World.rowIs_made w (.bool false) n 4).congr (fun i _ => by simp)⟩⟩
  case round =>
    obtain ⟨k, hk, rfl, H⟩ := hrel
    by_cases hlt : k < n
    · have hc := H.out.2.cell hlt
      have hz := H.out.2.frozen k
      have hkz : (k : Int) < n := by omega
      go_wp2
      go_roundw
      case rel =>
        refine ⟨k + 1, by omega, by go_num, hid ⟨H.out.1.setCell (by simp) _, (H.out.2.set k _).congr (fun i hi => ?_)⟩⟩
        by_cases e : i = k
        · subst e; simp
        · rw [if_neg e]
          congr 1
          simp only [decide_eq_decide]
          omega
      case measure => simp [intOf]; omega
    · go_wp2
      go_ret
      exact ⟨rfl, hid ⟨H.out.2.congr (fun i hi => by simp; omega), H.out.1⟩⟩

set_option maxHeartbeats 1000000 in
theorem marked_any (a : Option Addr) (n c N : Nat) (Z : Nat → Int) (w : World) (hn : n ≤ 140737488355328) (h : Row w a n Z) (hG : N ≤ 600) (hin : ∀ i, i < n → 0 ≤ Z i ∧ Z i < N) :
    Calls Try.prog 53 #[.slice a n c, .int .i64 (N : Nat)] w fun e w' => e = .returned (.slice (some ⟨w.heap.size, 0, none⟩) N N) ∧ Hid (w'.rowIs w.heap.size 4 N (fun i => .bool (has n Z i)) ∧ Below w.heap.size w w') := by
  have hmk := run_make_row' (P := Try.prog) 29 4 (.bool false) 1 Try.underlying29 Try.info4 rfl .i64 .i64 N (by omega) (by omega)
  obtain ⟨b, o, ha, hc⟩ := h
  have HC := hid hc
  have HA := hid hin
  clear hc hin
  go_enter Try.func53, Try.ntmps53
  go_wp2
  clear hmk
  go_loopw [6] (fun i wr => ∃ k : Nat, k ≤ n ∧ i = .int .i64 k ∧ Hid (Below w.heap.size w wr ∧ wr.rowIs w.heap.size 4 N (fun x => .bool (has k Z x)))) (fun i _ => n - (intOf i).toNat)
  case atStart => exact ⟨0, Nat.zero_le _, rfl, hid ⟨box_below _ _, (World.rowIs_made w (.bool false) N 4).congr (fun i _ => by rw [has_no (fun i hi => absurd hi (Nat.not_lt_zero i))])⟩⟩
  case round =>
    obtain ⟨k, hk, rfl, H⟩ := hrel
    by_cases hlt : k < n
    · obtain rfl := ha (by omega)
      have hz := HA.out k hlt
      obtain ⟨t, ht⟩ : ∃ t : Nat, Z k = t := ⟨(Z k).toNat, by omega⟩
      have htN : t < N := by omega
      have hck : wr.cell? ⟨b, o + k, none⟩ = some (.int .i64 t) := by rw [← ht]; exact below_cell H.out.1 (Nat.le_refl _) (HC.out k hlt)
      have htz : (t : Int) < N := by omega
      have hkz : (k : Int) < n := by omega
      have hct := H.out.2.cell htN
      have hfz := H.out.2.frozen t
      have Ht := hid ht
      clear ht hz
      go_wp2
      go_roundw
      case rel =>
        refine ⟨k + 1, by omega, by go_num, hid ⟨H.out.1.setCell (by simp) _, (H.out.2.set t _).congr (fun i hi => ?_)⟩⟩
        by_cases e : i = t
        · subst e
          rw [if_pos rfl, has_yes k (by omega) Ht.out]
        · rw [if_neg e]
          by_cases e2 : has k Z i = true
          · have := e2
            unfold has at this
            rw [decide_eq_true_eq] at this
            obtain ⟨j, h1, h2⟩ := this
            rw [e2, has_yes j (by omega) h2]
          · rw [Bool.not_eq_true] at e2
            rw [e2, has_no]
            intro j hj hzj
            by_cases e3 : j = k
            · subst e3; rw [Ht.out] at hzj; omega
            · rw [has_yes j (by omega) hzj] at e2; cases e2
      case measure => simp [intOf]; omega
    · go_wp2
      go_ret
      obtain rfl : k = n := by omega
      exact ⟨rfl, hid ⟨H.out.2, H.out.1⟩⟩

end Go.Proofs.Ytgahdclbaifcbaa
