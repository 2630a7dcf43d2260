/-     -/
import Derived.Test.YtmdpbaobihdgkaaGreatDoorTepJ
import Derived.Test.YtmdpbaobihdgkaaGreatDoorTwhJ
import Derived.Deep.OwnRows
import Derived.Maps.AppendAt
import Derived.Test.YtmdpbaobihdgkaaGreatDoorRows
import Derived.WalkKit
import Derived.WalkSpells
import Derived.WalkLawsBesides
import Derived.Deep.QuietTactic
import Derived.BigQuiet
import Derived.Below
import Derived.Deep.Heap
import Derived.Test.YtmdpbaobihdgkaaGreatDoorRwsJ
import Derived.Test.YtmdpbaobihdgkaaGreatDoorBaseJ
import Derived.Test.YtmdpbaobihdgkaaGreatDoorPshJ
import Derived.Test.YtmdpbaobihdgkaaGreatDoorTeaJ
import Derived.Test.YtmdpbaobihdgkaaGreatDoorWk
import Derived.Test.YtmdpbaobihdgkaaGreatDoorMkfJ
import Derived.Test.YtmdpbaobihdgkaaGreatDoorAGraphJ
/- tableau: what truths answers is what the pure text calls true at a state. -/
/- tableau: what Make's lists hold (pure). -/
/- Turn and Turned, each by its contract: both make the graph turned round, in new memory. -/
/- Small functions, by their contracts. -/
namespace Go.Proofs.YtmdpbaobihdgkaaGreatDoor
open Go.RowKit

theorem prt_pts : ∀ t x, x ∈ pts t ↔ Prt t x := by
  intro t
  induction t using Fml.ind with
  | h t ih =>
    intro x
    rw [pts_eq, List.mem_cons, catF_mem, prt_eq]
    constructor
    · rintro (h | ⟨i, hi, h⟩)
      · exact Or.inl h
      · exact Or.inr ⟨i, hi, (ih i hi x).1 h⟩
    · rintro (h | ⟨i, hi, h⟩)
      · exact Or.inl h
      · exact Or.inr ⟨i, hi, (ih i hi x).2 h⟩

theorem trv_isT (E : List Fml) (s : Nat) : ∀ t, Wf t → ¬ Has 10 t → ¬ Has 11 t → (trv E t s = true ↔ isT (fun g => bt s (pl E g) = true) t) := by
  intro t
  induction t using Fml.ind with
  | h t ih =>
    intro hw h10 h11
    have k10 : t.kind ≠ 10 := fun e => h10 ((has_eq 10 t).2 (Or.inl e))
    have k11 : t.kind ≠ 11 := fun e => h11 ((has_eq 11 t).2 (Or.inl e))
    have ih' : ∀ i, i < t.cnt → (t.reds (fun _ => false) (trF E) i s = true ↔ isT (fun g => bt s (pl E g) = true) (t.kid i)) := fun i hi => by
      rw [trv_kid hi]
      exact ih i hi (hw.out.2 i hi) (fun h => h10 ((has_eq 10 t).2 (Or.inr ⟨i, hi, h⟩))) (fun h => h11 ((has_eq 11 t).2 (Or.inr ⟨i, hi, h⟩)))
    obtain ⟨q1, q2, q3⟩ := fit_kind hw.out.1
    rw [trv_eq, isT_eq hw]
    generalize t.reds (fun _ => false) (trF E) = rr at *
    unfold trF isF
    have hk : t.kind = 1 ∨ t.kind = 2 ∨ t.kind = 3 ∨ t.kind = 4 ∨ t.kind = 5 ∨ t.kind = 6 ∨ t.kind = 7 ∨ t.kind = 8 ∨ t.kind = 9 := by omega
    have ar1 : ar 4 = 1 := by decide
    have ar2 : ar 5 = 2 ∧ ar 6 = 2 ∧ ar 8 = 2 ∧ ar 9 = 2 := by decide
    rcases hk with hk | hk | hk | hk | hk | hk | hk | hk | hk
    · simp [hk]
    · simp [hk]
    · simp [hk]
    · rw [hk] at q3
      have i0 := ih' 0 (by omega)
      simp [hk, ← i0]
    · rw [hk] at q3
      have i0 := ih' 0 (by omega)
      have i1 := ih' 1 (by omega)
      simp [hk, ← i0, ← i1]
    · rw [hk] at q3
      have i0 := ih' 0 (by omega)
      have i1 := ih' 1 (by omega)
      simp [hk, ← i0, ← i1]
    · simp [hk]
    · rw [hk] at q3
      have i0 := ih' 0 (by omega)
      have i1 := ih' 1 (by omega)
      simp [hk, ← i0, ← i1]
    · rw [hk] at q3
      have i0 := ih' 0 (by omega)
      have i1 := ih' 1 (by omega)
      simp [hk, ← i0, ← i1]
end Go.Proofs.YtmdpbaobihdgkaaGreatDoor

namespace Go.Proofs.YtmdpbaobihdgkaaGreatDoor
open Go.RowKit

/-- The number whose bits below n are told. -/
def orN (F : Nat → Bool) : Nat → Nat
  | 0 => 0
  | n + 1 => if F n then orN F n ||| 2 ^ n else orN F n

theorem orN_bit (F : Nat → Bool) (k : Nat) : ∀ n, (orN F n).testBit k = (decide (k < n) && F k)
  | 0 => by simp [orN]
  | n + 1 => by
    rw [orN]
    by_cases e : n = k
    · subst e
      by_cases h : F n = true
      · rw [if_pos h, Nat.testBit_or, orN_bit F n n, Nat.testBit_two_pow]; simp [h]
      · rw [if_neg h, orN_bit F n n]; simp at h; simp [h]
    · have hd : decide (k < n + 1) = decide (k < n) := decide_eq_decide.2 (by omega)
      by_cases h : F n = true
      · rw [if_pos h, Nat.testBit_or, orN_bit F k n, Nat.testBit_two_pow, hd]; simp [e]
      · rw [if_neg h, orN_bit F k n, hd]

theorem orN_lt (F : Nat → Bool) : ∀ n, orN F n < 2 ^ n
  | 0 => by simp [orN]
  | n + 1 => by
    have h := orN_lt F n
    have h2 : 2 ^ n < 2 ^ (n + 1) := Nat.pow_lt_pow_right (by decide) (by omega)
    rw [orN]
    split
    · exact Nat.or_lt_two_pow (Nat.lt_trans h h2) h2
    · exact Nat.lt_trans h h2

theorem bt_bit (s p : Nat) : bt s p = s.testBit p := by unfold bt; rw [Nat.testBit_eq_decide_div_mod_eq]

/-- What is asked of the state ahead. -/
def asd (t : Fml) : Fml := if t.kind = 7 then t.kid 0 else t
/-- The places of the elements that are no atoms. -/
def tld (E : List Fml) (n : Nat) : Nat := orN (fun k => (lf E k).kind != 3) n
/-- What the state behind must have chosen of them. -/
def ahd (E : List Fml) (s n : Nat) : Nat := orN (fun k => (lf E k).kind != 3 && trv E (asd (lf E k)) s) n
/-- Those to which a state goes. -/
def nxt (E : List Fml) (s : Nat) : List Int := trs (fun q => decide (ahd E q E.length = s &&& tld E E.length)) (2 ^ E.length)

theorem ahd_eq (E : List Fml) (s q : Nat) : ahd E q E.length = s &&& tld E E.length ↔ ∀ k, k < E.length → (lf E k).kind ≠ 3 → (trv E (asd (lf E k)) q = bt s k) := by
  constructor
  · intro h k hk h3
    have := congrArg (fun x => Nat.testBit x k) h
    simp only [ahd, tld, Nat.testBit_and, orN_bit] at this
    have hb : ((lf E k).kind != 3) = true := bne_iff_ne.2 h3
    rw [bt_bit]
    rw [hb, decide_eq_true hk] at this
    simpa using this
  · intro h
    refine Nat.eq_of_testBit_eq fun k => ?_
    simp only [ahd, tld, Nat.testBit_and, orN_bit]
    by_cases hk : k < E.length
    · by_cases h3 : (lf E k).kind = 3
      · simp [h3]
      · have := h k hk h3
        rw [bt_bit] at this
        have hb : ((lf E k).kind != 3) = true := bne_iff_ne.2 h3
        rw [hb, this, decide_eq_true hk]
        simp
    · simp [hk]

/-- The atoms that a state's letter must have (b true) or not have (b false), of the first n elements. -/
def ltM (E : List Fml) (b : Bool) (s : Nat) : Nat → Nat
  | 0 => 0
  | k + 1 => if (lf E k).kind = 3 ∧ bt s k = b then ltM E b s k ||| 2 ^ (lf E k).num.toNat else ltM E b s k

theorem ltM_bit (E : List Fml) (b : Bool) (s i : Nat) : ∀ n, (ltM E b s n).testBit i = true ↔ ∃ k, k < n ∧ (lf E k).kind = 3 ∧ (lf E k).num.toNat = i ∧ bt s k = b
  | 0 => by simp [ltM]
  | n + 1 => by
    have ih := ltM_bit E b s i n
    have hx : (∃ k, k < n + 1 ∧ (lf E k).kind = 3 ∧ (lf E k).num.toNat = i ∧ bt s k = b) ↔ ((∃ k, k < n ∧ (lf E k).kind = 3 ∧ (lf E k).num.toNat = i ∧ bt s k = b) ∨ ((lf E n).kind = 3 ∧ (lf E n).num.toNat = i ∧ bt s n = b)) := by
      constructor
      · rintro ⟨k, hk, h⟩
        by_cases e : k = n
        · subst e; exact Or.inr h
        · exact Or.inl ⟨k, by omega, h⟩
      · rintro (⟨k, hk, h⟩ | h)
        · exact ⟨k, by omega, h⟩
        · exact ⟨n, by omega, h⟩
    rw [hx, ltM]
    by_cases h : (lf E n).kind = 3 ∧ bt s n = b
    · rw [if_pos h, Nat.testBit_or, Nat.testBit_two_pow, Bool.or_eq_true, ih, decide_eq_true_eq]
      constructor
      · rintro (h1 | h1)
        · exact Or.inl h1
        · exact Or.inr ⟨h.1, h1, h.2⟩
      · rintro (h1 | h1)
        · exact Or.inl h1
        · exact Or.inr h1.2.1
    · rw [if_neg h, ih]
      constructor
      · exact Or.inl
      · rintro (h1 | h1)
        · exact h1
        · exact absurd ⟨h1.1, h1.2.2⟩ h

theorem ltM_lt (E : List Fml) (b : Bool) (s : Nat) (hE : ∀ x ∈ E, x.kind = 3 → 0 ≤ x.num ∧ x.num ≤ 63) : ∀ n, n ≤ E.length → ltM E b s n < 18446744073709551616
  | 0, _ => by simp [ltM]
  | n + 1, h => by
    have ih := ltM_lt E b s hE n (by omega)
    rw [ltM]
    split
    · rename_i hk
      have hm := hE _ (mem_lf (by omega)) hk.1
      have : 2 ^ (lf E n).num.toNat < 2 ^ 64 := Nat.pow_lt_pow_right (by decide) (by omega)
      exact Nat.or_lt_two_pow (n := 64) ih this
    · exact ih

/-- The elements that have fair sets. -/
def isFr (t : Fml) : Bool := t.kind == 8 || t.kind == 9
def frT (E : List Fml) : List Fml := E.filter isFr
/-- Is a state in the fair set of an element? -/
def frF (E : List Fml) (t : Fml) (s : Nat) : Bool := if t.kind = 8 then !trv E t s || trv E (t.kid 1) s else trv E t s || !trv E (t.kid 1) s
end Go.Proofs.YtmdpbaobihdgkaaGreatDoor

namespace Go.Proofs.YtmdpbaobihdgkaaGreatDoor
open Go.RowKit

theorem check_ok (ga : Option Addr) (G gc : Nat) (L : Nat → Nat) (Z : Nat → Nat → Int) (w : World) (hL : ∀ r, r < G → L r ≤ 140737488355328) (h : Gr w ga G L Z) (h0 : errG G L Z = 0) :
    Calls Tryz.prog 68 #[.slice ga G gc] w fun e w' => e = .returned (.int .i64 0) ∧ w' = w := by
  have := a_check_any ga G gc L Z w hL h
  rwa [h0] at this

theorem errG_zero {G : Nat} {L : Nat → Nat} {Z : Nat → Nat → Int} (h : errG G L Z = 0) : G ≤ 20000 ∧ ∀ r, r < G → ∀ i, i < L r → 0 ≤ Z r i ∧ Z r i < G := by
  unfold errG at h
  by_cases h1 : 20000 < G
  · rw [if_pos h1] at h; cases h
  · rw [if_neg h1] at h
    by_cases h2 : okG G L Z = true
    · exact ⟨by omega, okG_all h2⟩
    · rw [if_neg h2] at h; cases h

end Go.Proofs.YtmdpbaobihdgkaaGreatDoor

namespace Go.Proofs.YtmdpbaobihdgkaaGreatDoor
open Go.RowKit

set_option maxHeartbeats 400000 in
theorem endsWith_any (a : Option Addr) (n c : Nat) (Z : Nat → Int) (x : Int) (w : World) (hn : n ≤ 140737488355328) (h : Row w a n Z) :
    Calls Tryz.prog 69 #[.slice a n c, .int .i64 x] w fun e w' => e = .returned (.bool (decide (0 < n ∧ Z (n - 1) = x))) ∧ w' = w := by
  obtain ⟨b, o, ha, hc⟩ := h
  by_cases h0 : 0 < n
  · obtain rfl := ha h0
    have hcl := hc (n - 1) (by omega)
    have hz : (0 : Int) < n := by omega
    obtain ⟨k, rfl⟩ : ∃ k, n = k + 1 := ⟨n - 1, by omega⟩
    simp only [Nat.add_sub_cancel] at hcl ⊢
    clear hc ha
    go_enter Tryz.func69, Tryz.ntmps69
    go_wp2
    go_ret
    refine ⟨ret_bool ?_, rfl⟩
    rw [Bool.eq_iff_iff]; simp
  · have hz : ¬ (0 : Int) < n := by omega
    obtain rfl : n = 0 := by omega
    go_enter Tryz.func69, Tryz.ntmps69
    go_wp2
    go_ret
    exact ⟨ret_bool (by simp), rfl⟩

set_option maxHeartbeats 1000000 in
theorem turn_ok (ga : Option Addr) (G gc : Nat) (L : Nat → Nat) (Z : Nat → Nat → Int) (w : World) (hL : ∀ r, r < G → L r ≤ 140737488355328) (h : Gr w ga G L Z) (h0 : errG G L Z = 0) :
    Calls Tryz.prog 24 #[.slice ga G gc] w fun e w' => e = .returned (.tuple #[.slice (some ⟨w.heap.size, 0, none⟩) G G, .int .i64 0]) ∧ ∃ V, Fam w w' G (tl L Z G) V := by
  have C : Hid (Calls Tryz.prog 68 #[.slice ga G gc] w fun e w' => e = .returned (.int .i64 0) ∧ w' = w) := check_ok ga G gc L Z w hL h h0
  obtain ⟨hG, hall⟩ := errG_zero h0
  have HA : Hid (∀ r, r < G → ∀ i, i < L r → 0 ≤ Z r i ∧ Z r i < G) := hall
  have HL : Hid (∀ r, r < G → L r ≤ 140737488355328) := hL
  obtain ⟨b, o, ha, hc⟩ := h
  have HC : Hid (∀ r, r < G → ∃ a c, w.cell? ⟨b, o + r, none⟩ = some (.slice a (L r) c) ∧ Row w a (L r) (Z r)) := hc
  clear hc hL hall h0
  have hmk := run_make_row' (P := Tryz.prog) 30 29 (.slice none 0 0) 24 Tryz.underlying30 Tryz.info29 rfl .i64 .i64 G (by omega) (by omega)
  obtain ⟨i0, hi, hz0, hz1, hz2⟩ := info_parts Tryz.info3
  have HI : Hid (Tryz.prog.info? 3 = some i0 ∧ i0.zero = some (.int .i64 0) ∧ i0.size = 1 ∧ i0.bytes = 8) := ⟨hi, hz0, hz1, hz2⟩
  clear hi hz0 hz1 hz2
  go_enter Tryz.func24, Tryz.ntmps24
  go_wp2_with fail
  refine C.out.mono ?_
  rintro e w' ⟨rfl, rfl⟩
  go_wp2
  clear hmk
  go_loopw [20] (fun i wr => ∃ r : Nat, r ≤ G ∧ i = .int .i64 r ∧ ∃ V, Fam w' wr G (tl L Z r) V) (fun i _ => G - (intOf i).toNat)
  case atStart => exact ⟨0, Nat.zero_le _, rfl, _, fam_start w' G _ (fun j _ => rfl)⟩
  case round =>
    obtain ⟨r, hr, rfl, V, hF⟩ := hrel
    by_cases hlt : r < G
    · obtain rfl := ha (by omega)
      obtain ⟨a, c, hck0, hrow0⟩ := HC.out r hlt
      have hck : wr.cell? ⟨b, o + r, none⟩ = some (.slice a (L r) c) := by
        rw [hF.below.cell (p := ⟨b, o + r, none⟩) (World.block_lt_of_cell? _ _ hck0)]; exact hck0
      have HR : Hid (Row w' a (L r) (Z r)) := hrow0
      have HF : Hid (Fam w' wr G (tl L Z r) V) := hF
      have hLr := HL.out r hlt
      clear hrow0 hck0 hF ha
      go_wp2
      go_loopw [27] (fun i wi => ∃ k : Nat, k ≤ L r ∧ i = .int .i64 k ∧ ∃ V, Fam w' wi G (tli L Z r k) V) (fun i _ => L r - (intOf i).toNat)
      case atStart => exact ⟨0, Nat.zero_le _, rfl, V, HF.out.congr (fun j _ => (tli_zero L Z r j).symm)⟩
      case round =>
        obtain ⟨k, hk, rfl, V', hF⟩ := hrel
        by_cases hlk : k < L r
        · obtain ⟨b', o', ha', hc'⟩ := HR.out
          obtain rfl := ha' (by omega)
          obtain ⟨t, ht⟩ : ∃ t : Nat, Z r k = t := ⟨(Z r k).toNat, by have := HA.out r hlt k hlk; omega⟩
          have htG : t < G := by have := HA.out r hlt k hlk; omega
          have htz : (t : Int) < G := by omega
          have hcell : wr.cell? ⟨b', o' + k, none⟩ = some (.int .i64 t) := by
            rw [hF.below.cell (p := ⟨b', o' + k, none⟩) (World.block_lt_of_cell? _ _ (hc' k hlk)), hc' k hlk, ht]
          have HT : Hid (Z r k = t) := ht
          clear hck ht hc' ha' HF
          obtain ⟨a2, c2, hv, hrow⟩ := owns_row (hF.own t htG)
          have hown := hF.own t htG
          have htop := hF.top.cell htG
          rw [hv] at hown htop
          have hlen := tli_le L Z r k t
          have CE := endsWith_any a2 (tli L Z r k t).length c2 _ (r : Int) wr (by omega) hrow
          rw [tli_last] at CE
          have HE : Hid (Calls Tryz.prog 69 #[.slice a2 (tli L Z r k t).length c2, .int .i64 r] wr fun e w' => e = .returned (.bool (has k (Z r) t)) ∧ w' = wr) := CE
          have HF : Hid (Fam w' wr G (tli L Z r k) V') := hF
          have HV : Hid (V' t = .slice a2 (tli L Z r k t).length c2) := hv
          have HO : Hid (wr.ownsRow (w'.heap.size + 1) 3 1 (.slice a2 (tli L Z r k t).length c2) (tli L Z r k t).length (vals (tli L Z r k t))) := hown
          have hsize := hF.size
          clear CE hrow hF hv hown
          generalize hn : (tli L Z r k t).length = n at *
          have HN : Hid ((tli L Z r k t).length = n) := hn
          clear hn
          cases hb : has k (Z r) t
          · have HB : Hid (has k (Z r) t = false) := hb
            rw [hb] at HE
            clear hb
            go_wp2_with fail
            refine HE.out.mono ?_
            rintro e w1 ⟨rfl, rfl⟩
            go_wp2_with (at_builtin; refine wpList_append_own_at _ rfl _ _ 29 rfl (w'.heap.size + 1) 3 i0 (.int .i64 0) 1 8 Tryz.underlying29 HI.out.1 HI.out.2.1 HI.out.2.2.1 HI.out.2.2.2 rfl (by decide) _ _ _ rfl (HO.out.alloc _) ⟨w1.heap.size, 0, none⟩ 1 1 [.int .i64 r] rfl rfl (cell_one_new _ _ _) (ints_oneCell .i64 [(r : Int)]) (by unfold maxLen; omega) (by omega) (by simp; omega) ?_; intro v' w2 hown' hgrow hnil hloc; obtain ⟨⟨a3, c3, rfl⟩, g1, g2, G3⟩ := Fam.step' HF.out htG HN.out HV.out hown' hgrow hloc; clear hown' hgrow hnil hloc)
            go_roundw
            case rel => exact ⟨k + 1, by omega, by go_num, _, G3.out.congr (fun j _ => tli_new L Z r k t HT.out HB.out j)⟩
            case measure => simp [intOf]; omega
          · have HB : Hid (has k (Z r) t = true) := hb
            rw [hb] at HE
            clear hb
            go_wp2_with fail
            refine HE.out.mono ?_
            rintro e w1 ⟨rfl, rfl⟩
            go_wp2
            go_roundw
            case rel => exact ⟨k + 1, by omega, by go_num, V', HF.out.congr (fun j _ => tli_hit L Z r k t HT.out HB.out j)⟩
            case measure => simp [intOf]; omega
        · go_wp2
          obtain rfl : k = L r := by omega
          go_roundw
          case rel => exact ⟨r + 1, by omega, by go_num, V', hF.congr (fun j _ => tli_full L Z r j)⟩
          case measure => simp [intOf]; omega
    · go_wp2
      obtain rfl : r = G := by omega
      go_ret2
      exact ⟨rfl, V, hF⟩

end Go.Proofs.YtmdpbaobihdgkaaGreatDoor
