/- Small functions, by their contracts. What comes in a graph and in the one turned round; two ways. -/
import Derived.Test.YtjenkhphngiphaaFamJ
import Derived.Test.YtjenkhphngiphaaWaysJ
namespace Go.Proofs.Ytjenkhphngiphaa
open Go.RowKit

set_option maxHeartbeats 400000 in
theorem endsWith_any (a : Option Addr) (n c : Nat) (Z : Nat → Int) (x : Int) (w : World) (hn : n ≤ 140737488355328) (h : Row w a n Z) :
    Calls Try.prog 83 #[.slice a n c, .int .i64 x] w fun e w' => e = .returned (.bool (decide (0 < n ∧ Z (n - 1) = x))) ∧ w' = w := by
  obtain ⟨b, o, ha, hc⟩ := h
  by_cases h0 : 0 < n
  · obtain rfl := ha h0
    have hcl := hc (n - 1) (by omega)
    have hz : (0 : Int) < n := by omega
    obtain ⟨k, rfl⟩ : ∃ k, n = k + 1 := ⟨n - 1, by omega⟩
    simp only [Nat.add_sub_cancel] at hcl ⊢
    clear hc ha
    go_enter Try.func83, Try.ntmps83
    go_wp2
    go_ret
    refine ⟨ret_bool ?_, rfl⟩
    rw [Bool.eq_iff_iff]; simp
  · have hz : ¬ (0 : Int) < n := by omega
    obtain rfl : n = 0 := by omega
    go_enter Try.func83, Try.ntmps83
    go_wp2
    go_ret
    exact ⟨ret_bool (by simp), rfl⟩

set_option maxHeartbeats 1000000 in
theorem turn_ok (ga : Option Addr) (G gc : Nat) (L : Nat → Nat) (Z : Nat → Nat → Int) (w : World) (hL : ∀ r, r < G → L r ≤ 140737488355328) (h : Gr w ga G L Z) (h0 : errG G L Z = 0) :
    Calls Try.prog 47 #[.slice ga G gc] w fun e w' => e = .returned (.tuple #[.slice (some ⟨w.heap.size, 0, none⟩) G G, .int .i64 0]) ∧ ∃ V, Fam w w' G (tl L Z G) V := by
  have C : Hid (Calls Try.prog 67 #[.slice ga G gc] w fun e w' => e = .returned (.int .i64 0) ∧ w' = w) := check_ok ga G gc L Z w hL h h0
  obtain ⟨hG, hall⟩ := errG_zero h0
  have HA : Hid (∀ r, r < G → ∀ i, i < L r → 0 ≤ Z r i ∧ Z r i < G) := hall
  have HL : Hid (∀ r, r < G → L r ≤ 140737488355328) := hL
  obtain ⟨b, o, ha, hc⟩ := h
  have HC : Hid (∀ r, r < G → ∃ a c, w.cell? ⟨b, o + r, none⟩ = some (.slice a (L r) c) ∧ Row w a (L r) (Z r)) := hc
  clear hc hL hall h0
  have hmk := run_make_row' (P := Try.prog) 32 26 (.slice none 0 0) 24 Try.underlying32 Try.info26 rfl .i64 .i64 G (by omega) (by omega)
  obtain ⟨i0, hi, hz0, hz1, hz2⟩ := info_parts Try.info3
  have HI : Hid (Try.prog.info? 3 = some i0 ∧ i0.zero = some (.int .i64 0) ∧ i0.size = 1 ∧ i0.bytes = 8) := ⟨hi, hz0, hz1, hz2⟩
  clear hi hz0 hz1 hz2
  go_enter Try.func47, Try.ntmps47
  go_wp2_with fail
  refine C.out.mono ?_
  rintro e w' ⟨rfl, rfl⟩
  go_wp2
  clear hmk
  go_loopw [20] (fun i wr => ∃ r : Nat, r ≤ G ∧ i = .int .i64 r ∧ ∃ V, Fam w' wr G (tl L Z r) V) (fun i _ => G - (intOf i).toNat)
  case atStart => exact ⟨0, Nat.zero_le _, rfl, _, fam_start w' G _ (fun j _ => rfl)⟩
  case round =>
    obtain ⟨r, hr, rfl, V, hF⟩ := hrel
    by_cases hlt : r < G
    · obtain rfl := ha (by omega)
      obtain ⟨a, c, hck0, hrow0⟩ := HC.out r hlt
      have hck : wr.cell? ⟨b, o + r, none⟩ = some (.slice a (L r) c) := by
        rw [hF.below.cell (p := ⟨b, o + r, none⟩) (World.block_lt_of_cell? _ _ hck0)]; exact hck0
      have HR : Hid (Row w' a (L r) (Z r)) := hrow0
      have HF : Hid (Fam w' wr G (tl L Z r) V) := hF
      have hLr := HL.out r hlt
      clear hrow0 hck0 hF ha
      go_wp2
      go_loopw [27] (fun i wi => ∃ k : Nat, k ≤ L r ∧ i = .int .i64 k ∧ ∃ V, Fam w' wi G (tli L Z r k) V) (fun i _ => L r - (intOf i).toNat)
      case atStart => exact ⟨0, Nat.zero_le _, rfl, V, HF.out.congr (fun j _ => (tli_zero L Z r j).symm)⟩
      case round =>
        obtain ⟨k, hk, rfl, V', hF⟩ := hrel
        by_cases hlk : k < L r
        · obtain ⟨b', o', ha', hc'⟩ := HR.out
          obtain rfl := ha' (by omega)
          obtain ⟨t, ht⟩ : ∃ t : Nat, Z r k = t := ⟨(Z r k).toNat, by have := HA.out r hlt k hlk; omega⟩
          have htG : t < G := by have := HA.out r hlt k hlk; omega
          have htz : (t : Int) < G := by omega
          have hcell : wr.cell? ⟨b', o' + k, none⟩ = some (.int .i64 t) := by
            rw [hF.below.cell (p := ⟨b', o' + k, none⟩) (World.block_lt_of_cell? _ _ (hc' k hlk)), hc' k hlk, ht]
          have HT : Hid (Z r k = t) := ht
          clear hck ht hc' ha' HF
          obtain ⟨a2, c2, hv, hrow⟩ := owns_row (hF.own t htG)
          have hown := hF.own t htG
          have htop := hF.top.cell htG
          rw [hv] at hown htop
          have hlen := tli_le L Z r k t
          have CE := endsWith_any a2 (tli L Z r k t).length c2 _ (r : Int) wr (by omega) hrow
          rw [tli_last] at CE
          have HE : Hid (Calls Try.prog 83 #[.slice a2 (tli L Z r k t).length c2, .int .i64 r] wr fun e w' => e = .returned (.bool (has k (Z r) t)) ∧ w' = wr) := CE
          have HF : Hid (Fam w' wr G (tli L Z r k) V') := hF
          have HV : Hid (V' t = .slice a2 (tli L Z r k t).length c2) := hv
          have HO : Hid (wr.ownsRow (w'.heap.size + 1) 3 1 (.slice a2 (tli L Z r k t).length c2) (tli L Z r k t).length (vals (tli L Z r k t))) := hown
          have hsize := hF.size
          clear CE hrow hF hv hown
          generalize hn : (tli L Z r k t).length = n at *
          have HN : Hid ((tli L Z r k t).length = n) := hn
          clear hn
          cases hb : has k (Z r) t
          · have HB : Hid (has k (Z r) t = false) := hb
            rw [hb] at HE
            clear hb
            go_wp2_with fail
            refine HE.out.mono ?_
            rintro e w1 ⟨rfl, rfl⟩
            go_wp2_with (at_builtin; refine wpList_append_own_at _ rfl _ _ 26 rfl (w'.heap.size + 1) 3 i0 (.int .i64 0) 1 8 Try.underlying26 HI.out.1 HI.out.2.1 HI.out.2.2.1 HI.out.2.2.2 rfl (by decide) _ _ _ rfl (HO.out.alloc _) ⟨w1.heap.size, 0, none⟩ 1 1 [.int .i64 r] rfl rfl (cell_one_new _ _ _) (ints_oneCell .i64 [(r : Int)]) (by unfold maxLen; omega) (by omega) (by simp; omega) ?_; intro v' w2 hown' hgrow hnil hloc; obtain ⟨⟨a3, c3, rfl⟩, g1, g2, G3⟩ := Fam.step' HF.out htG HN.out HV.out hown' hgrow hloc; clear hown' hgrow hnil hloc)
            go_roundw
            case rel => exact ⟨k + 1, by omega, by go_num, _, G3.out.congr (fun j _ => tli_new L Z r k t HT.out HB.out j)⟩
            case measure => simp [intOf]; omega
          · have HB : Hid (has k (Z r) t = true) := hb
            rw [hb] at HE
            clear hb
            go_wp2_with fail
            refine HE.out.mono ?_
            rintro e w1 ⟨rfl, rfl⟩
            go_wp2
            go_roundw
            case rel => exact ⟨k + 1, by omega, by go_num, V', HF.out.congr (fun j _ => tli_hit L Z r k t HT.out HB.out j)⟩
            case measure => simp [intOf]; omega
        · go_wp2
          obtain rfl : k = L r := by omega
          go_roundw
          case rel => exact ⟨r + 1, by omega, by go_num, V', hF.congr (fun j _ => tli_full L Z r j)⟩
          case measure => simp [intOf]; omega
    · go_wp2
      obtain rfl : r = G := by omega
      go_ret2
      exact ⟨rfl, V, hF⟩

end Go.Proofs.Ytjenkhphngiphaa

namespace Go.Proofs.Ytjenkhphngiphaa
open Go.RowKit

def RchG (E : Nat → Nat → Prop) (a b : Nat) : Prop := ∃ k, Wk (fun x => x = a) E k b

section
variable {E : Nat → Nat → Prop}
theorem RchG.refl (a : Nat) : RchG E a a := ⟨0, rfl⟩
theorem RchG.on {a b c : Nat} (h : RchG E a b) (e : E b c) : RchG E a c := by obtain ⟨k, hk⟩ := h; exact ⟨k + 1, b, hk, e⟩
theorem RchG.trans {a b c : Nat} (h : RchG E a b) (h' : RchG E b c) : RchG E a c := by
  obtain ⟨k, hk⟩ := h'
  have : ∀ k c, Wk (fun x => x = b) E k c → RchG E a c := by
    intro k
    induction k with
    | zero => intro c hc; have : c = b := hc; subst this; exact h
    | succ k ih =>
      intro c hc
      obtain ⟨y, hy, e⟩ := hc
      exact (ih y hy).on e
  exact this k c hk
theorem RchG.edge {a b : Nat} (e : E a b) : RchG E a b := (RchG.refl a).on e
/-- What goings never leave, no way leaves. -/
theorem RchG.stay {P : Nat → Prop} (hP : ∀ x y, P x → E x y → P y) {a b : Nat} (h : RchG E a b) (ha : P a) : P b := by
  obtain ⟨k, hk⟩ := h
  have : ∀ k b, Wk (fun x => x = a) E k b → P b := by
    intro k
    induction k with
    | zero => intro b hb; have : b = a := hb; subst this; exact ha
    | succ k ih =>
      intro b hb
      obtain ⟨y, hy, e⟩ := hb
      exact hP y b (ih y hy) e
  exact this k b hk
end

theorem comes_one {G : Nat} {L : Nat → Nat} {Z : Nat → Nat → Int} {a b : Nat} : Comes G L Z 1 (fun _ => (a : Int)) b ↔ RchG (Ego G L Z) a b := by
  unfold Comes RchG
  rw [ed_ego, src_eq]
  have : (fun x : Nat => ∃ i : Nat, i < 1 ∧ (a : Int) = (x : Int)) = fun x => x = a := by
    funext x
    rw [eq_iff_iff]
    constructor
    · rintro ⟨_, _, e⟩; omega
    · intro e; exact ⟨0, by omega, by omega⟩
  rw [this]

/-- The graph turned round. -/
def tL (L : Nat → Nat) (Z : Nat → Nat → Int) (G j : Nat) : Nat := (tl L Z G j).length
def tZ (L : Nat → Nat) (Z : Nat → Nat → Int) (G j i : Nat) : Int := (tl L Z G j).getD i 0

section
variable {G : Nat} {L : Nat → Nat} {Z : Nat → Nat → Int}

theorem tl_mem (j : Nat) (x : Int) : x ∈ tl L Z G j ↔ ∃ q : Nat, q < G ∧ has (L q) (Z q) j = true ∧ x = q := by
  unfold tl
  rw [List.mem_map]
  constructor
  · rintro ⟨q, hq, rfl⟩
    obtain ⟨h1, h2⟩ := List.mem_filter.1 hq
    exact ⟨q, List.mem_range.1 h1, h2, rfl⟩
  · rintro ⟨q, hq, h, rfl⟩
    exact ⟨q, List.mem_filter.2 ⟨List.mem_range.2 hq, h⟩, rfl⟩

theorem tZ_mem (j i : Nat) (hi : i < tL L Z G j) : tZ L Z G j i ∈ tl L Z G j := by
  unfold tZ
  rw [List.getD_eq_getElem?_getD, List.getElem?_eq_getElem hi]
  exact List.getElem_mem hi

theorem has_turn (j q : Nat) : has (tL L Z G j) (tZ L Z G j) q = true ↔ q < G ∧ has (L q) (Z q) j = true := by
  rw [has_iff]
  constructor
  · rintro ⟨i, hi, e⟩
    have h := tZ_mem j i hi
    rw [e] at h
    obtain ⟨q', h1, h2, e'⟩ := (tl_mem j _).1 h
    have : q' = q := by omega
    subst this
    exact ⟨h1, h2⟩
  · rintro ⟨h1, h2⟩
    obtain ⟨i, hi, e⟩ := List.mem_iff_getElem.1 ((tl_mem (L := L) (Z := Z) (G := G) j q).2 ⟨q, h1, h2, rfl⟩)
    refine ⟨i, hi, ?_⟩
    unfold tZ
    rw [List.getD_eq_getElem?_getD, List.getElem?_eq_getElem hi]
    exact e

theorem turn_errG (h : errG G L Z = 0) : errG G (tL L Z G) (tZ L Z G) = 0 := by
  have hG := (errG_zero h).1
  refine errG_ok (by omega) ?_
  unfold okG
  rw [decide_eq_true_eq]
  intro r _
  refine allIn_yes (fun i hi => ?_)
  obtain ⟨q, h1, _, e⟩ := (tl_mem r _).1 (tZ_mem r i hi)
  omega

theorem ego_turn (h : errG G L Z = 0) (x y : Nat) : Ego G (tL L Z G) (tZ L Z G) x y ↔ Ego G L Z y x := by
  rw [← ed_ego, ← ed_ego]
  unfold Ed
  rw [has_turn]
  constructor
  · rintro ⟨_, h1, h2⟩; exact ⟨h1, h2⟩
  · rintro ⟨h1, h2⟩
    obtain ⟨i, hi, e⟩ := has_iff.1 h2
    have := (errG_zero h).2 y h1 i hi
    exact ⟨by omega, h1, h2⟩

theorem rch_back {E E' : Nat → Nat → Prop} (he : ∀ x y, E' x y → E y x) {x y : Nat} (h : RchG E' x y) : RchG E y x :=
  h.stay (P := fun z => RchG E z x) (fun _ _ hz e => (RchG.edge (he _ _ e)).trans hz) (RchG.refl x)

theorem rch_turn (h : errG G L Z = 0) (x y : Nat) : RchG (Ego G (tL L Z G) (tZ L Z G)) x y ↔ RchG (Ego G L Z) y x :=
  ⟨rch_back (fun a b e => (ego_turn h a b).1 e), rch_back (fun a b e => (ego_turn h b a).2 e)⟩
end

theorem Near.same {G : Nat} {L : Nat → Nat} {Z : Nat → Nat → Int} {T : Nat → Bool} {n : Nat} {Y : Nat → Int} {F F' : Nat → Int} {len len' : Nat} (h : Near G L Z T n Y F len) (h' : Near G L Z T n Y F' len') : len = len' := by
  have one : ∀ {F F' : Nat → Int} {len len' : Nat}, Near G L Z T n Y F len → Near G L Z T n Y F' len' → len' ≤ len := fun {F F' len len'} h h' => by
    obtain ⟨t, ht, hT, hF⟩ := h.tgt
    obtain ⟨h0, _, hw⟩ := h.snd t ht (by omega)
    obtain ⟨h1, h2⟩ := h'.all _ t ht hw
    have := h'.min t ht hT h1
    omega
  have a := one h h'
  have b := one h' h
  omega

theorem Near.comes {G : Nat} {L : Nat → Nat} {Z : Nat → Nat → Int} {T : Nat → Bool} {n : Nat} {Y : Nat → Int} {F : Nat → Int} {len : Nat} (h : Near G L Z T n Y F len) : ∃ t, t < G ∧ T t = true ∧ Comes G L Z n Y t := by
  obtain ⟨t, ht, hT, hF⟩ := h.tgt
  obtain ⟨_, _, hw⟩ := h.snd t ht (by omega)
  exact ⟨t, ht, hT, _, by rw [src_eq, ed_ego]; exact hw⟩

theorem WayIs.either {G : Nat} {L : Nat → Nat} {Z : Nat → Nat → Int} {T : Nat → Bool} {n : Nat} {Y : Nat → Int} {w w' : World} {v : Value} {is : Bool} (h : WayIs G L Z T n Y w w' v is) : (∀ x, x < G → T x = true → ¬ Comes G L Z n Y x) ∨ ∃ (F : Nat → Int) (len : Nat), Near G L Z T n Y F len := by
  rcases h with ⟨_, _, h⟩ | ⟨_, F, len, h, _⟩
  · exact Or.inl h
  · exact Or.inr ⟨F, len, h⟩

/-- What a way is in memory: a slice that holds just the nodes of the way. -/
theorem WayIs.row {G : Nat} {L : Nat → Nat} {Z : Nat → Nat → Int} {T : Nat → Bool} {n : Nat} {Y : Nat → Int} {w w' : World} {v : Value} {is : Bool} (h : WayIs G L Z T n Y w w' v is) : ∃ (a : Option Addr) (k c : Nat) (R : Nat → Int), v = .slice a k c ∧ Row w' a k R ∧
    ((is = false ∧ k = 0 ∧ ∀ x, x < G → T x = true → ¬ Comes G L Z n Y x) ∨ (is = true ∧ ∃ (F : Nat → Int) (len : Nat), Near G L Z T n Y F len ∧ k = len + 1 ∧ ∀ i, i < len + 1 → R i = nd L Z n Y (byLev G L Z T len) i)) := by
  rcases h with ⟨h1, rfl, h2⟩ | ⟨h1, F, len, h2, h3⟩
  · exact ⟨none, 0, 0, fun _ => 0, rfl, row_zero _ _ _, Or.inl ⟨h1, rfl, h2⟩⟩
  · have hl := wayL_len L Z n Y (byLev G L Z T len) (len + 1)
    obtain ⟨a, c, e, hr⟩ := owns_row (l := wayL L Z n Y (byLev G L Z T len) (len + 1)) (by rw [hl]; exact h3)
    rw [hl] at e hr
    refine ⟨a, len + 1, c, _, e, hr, Or.inr ⟨h1, F, len, h2, rfl, fun i hi => ?_⟩⟩
    simp [wayL, hi]

end Go.Proofs.Ytjenkhphngiphaa
