/- leastLeading and nearest, by their contracts. -/
import Derived.Test.YtjfanphbjngfeabWays
import Derived.Test.YtjfanphbjngfeabMore
namespace Go.Proofs.Ytjfanphbjngfeab
open Go.RowKit

theorem best_hit {p : Nat → Bool} {Y : Nat → Int} {k t : Nat} {m : Int} (hm : best p Y k = m) (hz : Y k = t) (hp : p t = true) (h : m = -1 ∨ (t : Int) < m) : best p Y (k + 1) = t := by
  simp only [best]
  rw [hm, hz, Int.toNat_natCast, if_pos ⟨hp, h⟩]

theorem best_miss {p : Nat → Bool} {Y : Nat → Int} {k t : Nat} {m : Int} (hm : best p Y k = m) (hz : Y k = t) (h : ¬ (p t = true ∧ (m = -1 ∨ (t : Int) < m))) : best p Y (k + 1) = m := by
  simp only [best]
  rw [hm, hz, Int.toNat_natCast, if_neg h]

set_option maxHeartbeats 1000000 in
theorem leastLeading_any (a : Option Addr) (n c G fb lb : Nat) (Y : Nat → Int) (F : Nat → Int) (B : Nat → Bool) (d : Int) (w : World) (_hG : G ≤ 20000) (hn : n ≤ 140737488355328) (h : Row w a n Y) (hY : ∀ i, i < n → 0 ≤ Y i ∧ Y i < G)
    (hf : ∀ x, x < G → w.cell? ⟨fb, x, none⟩ = some (.int .i64 (F x))) (hb : ∀ x, x < G → w.cell? ⟨lb, x, none⟩ = some (.bool (B x))) :
    Calls Try.prog 29 #[.slice a n c, .slice (some ⟨fb, 0, none⟩) G G, .slice (some ⟨lb, 0, none⟩) G G, .int .i64 d] w fun e w' => e = .returned (.int .i64 (best (fun x => B x && decide (F x = d)) Y n)) ∧ w' = w := by
  obtain ⟨b, o, ha, hc⟩ := h
  have HC : Hid (∀ i, i < n → w.cell? ⟨b, o + i, none⟩ = some (.int .i64 (Y i))) := hc
  have HY : Hid (∀ i, i < n → 0 ≤ Y i ∧ Y i < G) := hY
  have HF : Hid (∀ x, x < G → w.cell? ⟨fb, x, none⟩ = some (.int .i64 (F x))) := hf
  have HB : Hid (∀ x, x < G → w.cell? ⟨lb, x, none⟩ = some (.bool (B x))) := hb
  clear hc hY hf hb
  go_enter Try.func29, Try.ntmps29
  go_wp2
  go_loop [9, 14] (fun l i => ∃ (k : Nat) (m : Int), k ≤ n ∧ i = .int .i64 k ∧ l = .int .i64 m ∧ Hid (best (fun x => B x && decide (F x = d)) Y k = m)) (fun _ i => n - (intOf i).toNat)
  case atStart => exact ⟨0, -1, Nat.zero_le _, rfl, rfl, hid rfl⟩
  case round =>
    obtain ⟨k, m, hk, rfl, rfl, HM⟩ := hrel
    by_cases hlt : k < n
    · obtain rfl := ha (by omega)
      obtain ⟨t, ht⟩ : ∃ t : Nat, Y k = t := ⟨(Y k).toNat, by have := HY.out k hlt; omega⟩
      have htG : t < G := by have := HY.out k hlt; omega
      have htz : (t : Int) < G := by omega
      have hcell := HC.out k hlt
      rw [ht] at hcell
      have HT : Hid (Y k = t) := ht
      have hcf := HF.out t htG
      have hcb := HB.out t htG
      clear ht
      cases hB : B t
      · rw [hB] at hcb
        have HP : Hid (¬ ((B t && decide (F t = d)) = true ∧ (m = -1 ∨ (t : Int) < m))) := fun hh => by rw [hB] at hh; simp at hh
        clear hB
        go_wp2
        go_round
        case rel => exact ⟨k + 1, m, by omega, by go_num, rfl, hid (best_miss HM.out HT.out HP.out)⟩
        case measure => simp [intOf]; omega
      · rw [hB] at hcb
        by_cases hd : F t = d
        · have hd2 : (F t == d) = true := beq_iff_eq.2 hd
          have HP : Hid ((B t && decide (F t = d)) = true) := hid (by rw [hB, hd]; simp)
          clear hB hd
          by_cases h1 : m = -1
          · have hb1 : (m == -1) = true := beq_iff_eq.2 h1
            have HX : Hid (m = -1 ∨ (t : Int) < m) := Or.inl h1
            clear h1
            go_wp2
            go_round
            case rel => exact ⟨k + 1, t, by omega, by go_num, rfl, hid (best_hit HM.out HT.out HP.out HX.out)⟩
            case measure => simp [intOf]; omega
          · have hb1 : (m == -1) = false := beq_eq_false_iff_ne.2 h1
            have H1 : Hid (m ≠ -1) := h1
            clear h1
            by_cases h2 : (t : Int) < m
            · have HX : Hid (m = -1 ∨ (t : Int) < m) := Or.inr h2
              go_wp2
              go_round
              case rel => exact ⟨k + 1, t, by omega, by go_num, rfl, hid (best_hit HM.out HT.out HP.out HX.out)⟩
              case measure => simp [intOf]; omega
            · have HX : Hid (¬ ((B t && decide (F t = d)) = true ∧ (m = -1 ∨ (t : Int) < m))) := fun hh => hh.2.elim H1.out h2
              go_wp2
              go_round
              case rel => exact ⟨k + 1, m, by omega, by go_num, rfl, hid (best_miss HM.out HT.out HX.out)⟩
              case measure => simp [intOf]; omega
        · have hd2 : (F t == d) = false := beq_eq_false_iff_ne.2 hd
          have HP : Hid (¬ ((B t && decide (F t = d)) = true ∧ (m = -1 ∨ (t : Int) < m))) := fun hh => by simp [hd] at hh
          clear hB hd
          go_wp2
          go_round
          case rel => exact ⟨k + 1, m, by omega, by go_num, rfl, hid (best_miss HM.out HT.out HP.out)⟩
          case measure => simp [intOf]; omega
    · go_wp2
      obtain rfl : k = n := by omega
      go_ret
      exact ⟨ret_int HM.out.symm, rfl⟩

set_option maxHeartbeats 400000 in
theorem nearest_any (a : Option Addr) (n c G fb : Nat) (ta : Option Addr) (tc : Nat) (O : Nat → Int) (F : Nat → Int) (T : Nat → Bool) (w : World) (hG : G ≤ 20000) (hn : n ≤ 140737488355328) (h : Row w a n O) (hO : ∀ i, i < n → 0 ≤ O i ∧ O i < G)
    (hf : ∀ x, x < G → w.cell? ⟨fb, x, none⟩ = some (.int .i64 (F x))) (ht : Rowb w ta G T) :
    Calls Try.prog 19 #[.slice a n c, .slice (some ⟨fb, 0, none⟩) G G, .slice ta G tc] w fun e w' => (∃ r : Int, e = .returned (.int .i64 r) ∧
      ((r = -1 ∧ ∀ i, i < n → T (O i).toNat = false) ∨ ∃ i, i < n ∧ r = F (O i).toNat ∧ T (O i).toNat = true ∧ ∀ j, j < i → T (O j).toNat = false)) ∧ w' = w := by
  obtain ⟨b, o, ha, hc⟩ := h
  have HC : Hid (∀ i, i < n → w.cell? ⟨b, o + i, none⟩ = some (.int .i64 (O i))) := hc
  have HO : Hid (∀ i, i < n → 0 ≤ O i ∧ O i < G) := hO
  have HF : Hid (∀ x, x < G → w.cell? ⟨fb, x, none⟩ = some (.int .i64 (F x))) := hf
  obtain ⟨tb, to, hta, htc⟩ := ht
  have HTC : Hid (∀ x, x < G → w.cell? ⟨tb, to + x, none⟩ = some (.bool (T x))) := htc
  have HTA : Hid (0 < G → ta = some ⟨tb, to, none⟩) := hta
  clear hc hO hf htc hta
  go_enter Try.func19, Try.ntmps19
  go_wp2
  go_loop [11] (fun i => ∃ k : Nat, k ≤ n ∧ i = .int .i64 k ∧ Hid (∀ j, j < k → T (O j).toNat = false)) (fun i => n - (intOf i).toNat)
  case atStart => exact ⟨0, Nat.zero_le _, rfl, hid (fun j hj => absurd hj (Nat.not_lt_zero _))⟩
  case round =>
    obtain ⟨k, hk, rfl, H⟩ := hrel
    by_cases hlt : k < n
    · obtain rfl := ha (by omega)
      obtain ⟨t, ht⟩ : ∃ t : Nat, O k = t := ⟨(O k).toNat, by have := HO.out k hlt; omega⟩
      have htG : t < G := by have := HO.out k hlt; omega
      have htz : (t : Int) < G := by omega
      obtain rfl := HTA.out (by omega)
      have hcell := HC.out k hlt
      rw [ht] at hcell
      have HT : Hid (O k = t) := ht
      have hcf := HF.out t htG
      have hct := HTC.out t htG
      clear ht
      cases hB : T t
      · rw [hB] at hct
        have HB : Hid (T (O k).toNat = false) := by rw [HT.out, Int.toNat_natCast]; exact hB
        clear hB
        go_wp2
        go_round
        case rel => exact ⟨k + 1, by omega, by go_num, hid (snoc_all H.out HB.out)⟩
        case measure => simp [intOf]; omega
      · rw [hB] at hct
        have HB : Hid (T (O k).toNat = true ∧ F t = F (O k).toNat) := ⟨by rw [HT.out, Int.toNat_natCast]; exact hB, by rw [HT.out, Int.toNat_natCast]⟩
        clear hB
        go_wp2
        go_ret
        exact ⟨⟨_, rfl, Or.inr ⟨k, hlt, HB.out.2, HB.out.1, H.out⟩⟩, rfl⟩
    · go_wp2
      go_ret
      exact ⟨⟨_, rfl, Or.inl ⟨rfl, fun i hi => H.out i (by omega)⟩⟩, rfl⟩

/-- What is known of the nodes from the j-th one on. -/
def ldj (O : List Int) (LD : Nat → Bool) (j x : Nat) : Bool := decide ((x : Int) ∈ O.drop j) && LD x

theorem drop_eq {O : List Int} {k : Nat} (hk : k < O.length) : O.drop k = O.getD k 0 :: O.drop (k + 1) := by
  rw [List.getD_eq_getElem?_getD, List.getElem?_eq_getElem hk]
  exact List.drop_eq_getElem_cons hk

theorem ldj_set {O : List Int} {LD : Nat → Bool} {k x : Nat} (hk : k < O.length) (hx : O.getD k 0 = (x : Int)) (v : Bool) (hv : v = LD x) (y : Nat) : (if y = x then v else ldj O LD (k + 1) y) = ldj O LD k y := by
  unfold ldj
  rw [drop_eq hk, hx, hv]
  by_cases e : y = x
  · subst e; simp
  · rw [if_neg e]
    congr 1
    rw [decide_eq_decide, List.mem_cons]
    constructor
    · exact Or.inr
    · rintro (h | h)
      · exact absurd (by omega) e
      · exact h

theorem ldj_skip {O : List Int} {LD : Nat → Bool} {k x : Nat} (hk : k < O.length) (hx : O.getD k 0 = (x : Int)) (hv : LD x = false) (y : Nat) : ldj O LD (k + 1) y = ldj O LD k y := by
  rw [← ldj_set hk hx false hv.symm y]
  by_cases e : y = x
  · subst e; simp [ldj, hv]
  · rw [if_neg e]

theorem ldj_later {O : List Int} {LD : Nat → Bool} {F : Nat → Int} {k x y : Nat} (hk : k < O.length) (hx : O.getD k 0 = (x : Int)) (srt : O.Pairwise (fun a b => F a.toNat ≤ F b.toNat)) (hy : (y : Int) ∈ O) (hF : F y = F x + 1) : ldj O LD (k + 1) y = LD y := by
  unfold ldj
  have : (y : Int) ∈ O.drop (k + 1) := by
    obtain ⟨j, hj, ej⟩ := List.getElem_of_mem hy
    have hlt : k < j := by
      by_cases h : k < j
      · exact h
      · by_cases e : j = k
        · subst e
          rw [List.getD_eq_getElem?_getD, List.getElem?_eq_getElem hk] at hx
          have hx' : O[j] = (x : Int) := hx
          have : (y : Int) = x := by rw [← ej, hx']
          have : y = x := by omega
          subst this
          omega
        · have hp := List.pairwise_iff_getElem.1 srt j k hj hk (by omega)
          have hx' : O[k] = (x : Int) := by rw [List.getD_eq_getElem?_getD, List.getElem?_eq_getElem hk] at hx; exact hx
          rw [ej, hx', Int.toNat_natCast, Int.toNat_natCast] at hp
          omega
    rw [List.mem_iff_getElem]
    refine ⟨j - (k + 1), by rw [List.length_drop]; omega, ?_⟩
    rw [List.getElem_drop, ← ej]
    congr 1
    omega
  simp [this]

/-- What leading is to tell. -/
structure Leads (G : Nat) (L : Nat → Nat) (Z : Nat → Nat → Int) (T : Nat → Bool) (F : Nat → Int) (O : List Int) (len : Int) (LD : Nat → Bool) : Prop where
  at0 : ∀ x, x < G → (x : Int) ∈ O → F x = len → LD x = T x
  more : ∀ x, x < G → (x : Int) ∈ O → F x < len → (best (fun y => LD y && decide (F y = F x + 1)) (Z x) (L x) != -1) = LD x
  past : ∀ x, x < G → (x : Int) ∈ O → len < F x → LD x = false

set_option maxHeartbeats 1000000 in
theorem leading_any (ga : Option Addr) (G gc : Nat) (L : Nat → Nat) (Z : Nat → Nat → Int) (oa : Option Addr) (oc fb : Nat) (ta : Option Addr) (tc : Nat) (O : List Int) (F : Nat → Int) (T : Nat → Bool) (len : Int) (LD : Nat → Bool) (w : World)
    (hG : G ≤ 20000) (hL : ∀ r, r < G → L r ≤ 140737488355328) (hZ : ∀ x, x < G → ∀ i, i < L x → 0 ≤ Z x i ∧ Z x i < G) (h : Gr w ga G L Z) (hO : Row w oa O.length (fun i => O.getD i 0)) (hOl : O.length ≤ G) (hOi : ∀ y ∈ O, ∃ x : Nat, x < G ∧ y = (x : Int))
    (hmem : ∀ x, x < G → ((x : Int) ∈ O ↔ F x ≠ -1)) (hrng : ∀ x, x < G → F x ≠ -1 → 0 ≤ F x ∧ F x < G)
    (srt : O.Pairwise (fun a b => F a.toNat ≤ F b.toNat)) (hf : ∀ x, x < G → w.cell? ⟨fb, x, none⟩ = some (.int .i64 (F x))) (ht : Rowb w ta G T) (hLD : Leads G L Z T F O len LD) :
    Calls Try.prog 21 #[.slice ga G gc, .slice oa O.length oc, .slice (some ⟨fb, 0, none⟩) G G, .slice ta G tc, .int .i64 len] w fun e w' => e = .returned (.slice (some ⟨w.heap.size, 0, none⟩) G G) ∧ Below w.heap.size w w' ∧
      w'.rowIs w.heap.size 4 G (fun x => .bool (ldj O LD 0 x)) := by
  have HL : Hid (∀ r, r < G → L r ≤ 140737488355328) := hL
  have HZ : Hid (∀ x, x < G → ∀ i, i < L x → 0 ≤ Z x i ∧ Z x i < G) := hZ
  have HG : Hid (Gr w ga G L Z) := h
  obtain ⟨ob, oo, hoa, hoc⟩ := hO
  have HOC : Hid (∀ i, i < O.length → w.cell? ⟨ob, oo + i, none⟩ = some (.int .i64 (O.getD i 0))) := hoc
  have HOI : Hid (∀ y ∈ O, ∃ x : Nat, x < G ∧ y = (x : Int)) := hOi
  have HME : Hid ((∀ x, x < G → ((x : Int) ∈ O ↔ F x ≠ -1)) ∧ ∀ x, x < G → F x ≠ -1 → 0 ≤ F x ∧ F x < G) := ⟨hmem, hrng⟩
  have HS : Hid (O.Pairwise (fun a b => F a.toNat ≤ F b.toNat)) := srt
  have HF : Hid (∀ x, x < G → w.cell? ⟨fb, x, none⟩ = some (.int .i64 (F x))) := hf
  obtain ⟨tb, to, hta, htc⟩ := ht
  have HTC : Hid (∀ x, x < G → w.cell? ⟨tb, to + x, none⟩ = some (.bool (T x))) := htc
  have HTA : Hid (0 < G → ta = some ⟨tb, to, none⟩) := hta
  have HLD : Hid (Leads G L Z T F O len LD) := hLD
  clear hL hZ h hoc hOi hmem hrng srt hf htc hta hLD
  have hmk := run_make_row' (P := Try.prog) 24 4 (.bool false) 1 Try.underlying24 Try.info4 rfl .i64 .i64 G (by omega) (by omega)
  go_enter Try.func21, Try.ntmps21
  generalize hm : O.length = m at *
  have HM : Hid (O.length = m) := hm
  clear hm
  go_wp2
  clear hmk
  go_loopw [12] (fun i wr => ∃ (j : Nat) (z : Int), j ≤ m ∧ z + 1 = j ∧ i = .int .i64 z ∧ Hid (Below w.heap.size w wr ∧ wr.rowIs w.heap.size 4 G (fun x => .bool (ldj O LD j x)))) (fun i _ => (intOf i + 1).toNat)
  case atStart =>
    refine ⟨m, (m : Int) - 1, Nat.le_refl _, by omega, rfl, hid ⟨(Below.refl _ _).alloc (Nat.le_refl _) _, (World.rowIs_made w (.bool false) G 4).congr (fun x _ => ?_)⟩⟩
    have := HM.out
    simp [ldj, List.drop_eq_nil_of_le (Nat.le_of_eq this)]
  case round =>
    obtain ⟨j, z, hj, hz, rfl, HW⟩ := hrel
    cases j with
    | zero =>
      obtain rfl : z = -1 := by omega
      clear hz
      go_wp2
      go_ret
      exact ⟨rfl, HW.out.1, HW.out.2⟩
    | succ k =>
      obtain rfl : z = (k : Int) := by omega
      have hkm : k < m := by omega
      have hkz : (k : Int) < m := by omega
      clear hz
      obtain rfl := hoa (by omega)
      have hkO : k < O.length := by rw [HM.out]; exact hkm
      obtain ⟨x, hx, ex⟩ := HOI.out _ (getD_mem hkO)
      have EX : Hid (O.getD k 0 = (x : Int)) := ex
      have HXM : Hid ((x : Int) ∈ O) := hid (by rw [← ex]; exact getD_mem hkO)
      have hxz : (x : Int) < G := by omega
      have hcx : wr.cell? ⟨ob, oo + k, none⟩ = some (.int .i64 x) := by
        rw [HW.out.1.cell (p := ⟨ob, oo + k, none⟩) (World.block_lt_of_cell? _ _ (HOC.out k hkm)), HOC.out k hkm, ex]
      have hcf : wr.cell? ⟨fb, x, none⟩ = some (.int .i64 (F x)) := by
        rw [HW.out.1.cell (p := ⟨fb, x, none⟩) (World.block_lt_of_cell? _ _ (HF.out x hx))]; exact HF.out x hx
      have hFn := (HME.out.1 x hx).1 HXM.out
      have hFr := HME.out.2 x hx hFn
      have hF0 := hFr.1
      have hF1 := hFr.2
      have hlx := HW.out.2.cell hx
      have hlz := HW.out.2.frozen x
      clear ex hFn hFr
      by_cases h1 : F x = len
      · have hb1 : (F x == len) = true := beq_iff_eq.2 h1
        obtain rfl := HTA.out (by omega)
        have hct : wr.cell? ⟨tb, to + x, none⟩ = some (.bool (T x)) := by
          rw [HW.out.1.cell (p := ⟨tb, to + x, none⟩) (World.block_lt_of_cell? _ _ (HTC.out x hx))]; exact HTC.out x hx
        have HV : Hid (T x = LD x) := (HLD.out.at0 x hx HXM.out h1).symm
        clear h1
        go_wp2
        go_roundw
        case rel => exact ⟨k, (k : Int) - 1, by omega, by omega, rfl, hid ⟨HW.out.1.setCell (Nat.le_refl _) _, (HW.out.2.set x _).congr (fun y _ => by rw [← ldj_set hkO EX.out (T x) HV.out y]; split <;> rfl)⟩⟩
        case measure => simp [intOf]
      · have hb1 : (F x == len) = false := beq_eq_false_iff_ne.2 h1
        by_cases h2 : F x < len
        · obtain ⟨gb, go, hga, hgc⟩ := HG.out
          obtain rfl := hga (by omega)
          obtain ⟨a4, c4, hg0, hr0⟩ := hgc x hx
          have hgx : wr.cell? ⟨gb, go + x, none⟩ = some (.slice a4 (L x) c4) := by
            rw [HW.out.1.cell (p := ⟨gb, go + x, none⟩) (World.block_lt_of_cell? _ _ hg0)]; exact hg0
          have HR4 : Hid (Row wr a4 (L x) (Z x)) := hr0.below HW.out.1
          clear hg0 hr0 hgc hga
          have HC : Hid (∀ q, Calls Try.prog 29 #[.slice a4 (L x) c4, .slice (some ⟨fb, 0, none⟩) G G, .slice (some ⟨w.heap.size, 0, none⟩) G G, .int .i64 (F x + 1)] (wr.drewN q) fun e w' => e = .returned (.int .i64 (best (fun y => ldj O LD (k + 1) y && decide (F y = F x + 1)) (Z x) (L x))) ∧ w' = wr.drewN q) :=
            fun q => leastLeading_any a4 (L x) c4 G fb w.heap.size (Z x) F (ldj O LD (k + 1)) (F x + 1) (wr.drewN q) hG (HL.out x hx) HR4.out (HZ.out x hx)
              (fun y hy => by show wr.cell? _ = _; rw [HW.out.1.cell (p := ⟨fb, y, none⟩) (World.block_lt_of_cell? _ _ (HF.out y hy))]; exact HF.out y hy) (fun y hy => HW.out.2.cell hy)
          have HV : Hid ((best (fun y => ldj O LD (k + 1) y && decide (F y = F x + 1)) (Z x) (L x) != -1) = LD x) := by
            have := HLD.out.more x hx HXM.out h2
            refine hid (Eq.trans ?_ this)
            congr 1
            refine best_congr (L x) (fun i hi => ?_)
            have hzi := HZ.out x hx i hi
            by_cases e : F (Z x i).toNat = F x + 1
            · rw [ldj_later hkO EX.out HS.out ((HME.out.1 _ (by omega)).2 (by omega)) e]
            · simp [e]
          generalize best (fun y => ldj O LD (k + 1) y && decide (F y = F x + 1)) (Z x) (L x) = bv at *
          clear h1
          go_wp2_with fail
          refine wp_region_last 16 _ (by kernel_rfl) (by kernel_rfl) rfl rfl ?_
          simp only [List.take]
          repeat (go_big_quiet_step ((go_at_call 29; exact Calls.quiet_of_same (HC.out _))))
          refine wpQuiet_nil ?_
          intro nq
          go_wp2
          go_roundw
          case rel => exact ⟨k, (k : Int) - 1, by omega, by omega, rfl, hid ⟨(below_drewN HW.out.1 nq).setCell (Nat.le_refl _) _, ((show (wr.drewN nq).rowIs w.heap.size 4 G _ from HW.out.2).set x _).congr (fun y _ => by rw [← ldj_set hkO EX.out _ HV.out y]; split <;> rfl)⟩⟩
          case measure => simp [intOf]
        · have HV : Hid (LD x = false) := HLD.out.past x hx HXM.out (by omega)
          clear h1
          go_wp2
          go_roundw
          case rel => exact ⟨k, (k : Int) - 1, by omega, by omega, rfl, hid ⟨HW.out.1, HW.out.2.congr (fun y _ => by rw [ldj_skip hkO EX.out HV.out y])⟩⟩
          case measure => simp [intOf]

end Go.Proofs.Ytjfanphbjngfeab
