/- The document's Way, by its contract. -/
import Derived.Test.YtjenkhphngiphaaWaysJ
namespace Go.Proofs.Ytjenkhphngiphaa
open Go.RowKit

set_option maxHeartbeats 1000000 in
theorem refBest_any (a : Option Addr) (n c G fb vb : Nat) (Y : Nat → Int) (F : Nat → Int) (d : Int) (w : World) (hn : n ≤ 140737488355328) (h : Row w a n Y) (hY : ∀ i, i < n → 0 ≤ Y i ∧ Y i < G)
    (hv : w.cell? ⟨vb, 0, none⟩ = some (.slice (some ⟨fb, 0, none⟩) G G)) (hf : ∀ x, x < G → w.cell? ⟨fb, x, none⟩ = some (.int .i64 (F x))) :
    Calls Try.prog 55 #[.slice a n c, .int .i64 d, .pointer (some ⟨vb, 0, none⟩)] w fun e w' => e = .returned (.int .i64 (best (fun x => decide (F x = d)) Y n)) ∧ ∃ q, w' = w.drewN q := by
  obtain ⟨b, o, ha, hc⟩ := h
  have HC : Hid (∀ i, i < n → w.cell? ⟨b, o + i, none⟩ = some (.int .i64 (Y i))) := hc
  have HY : Hid (∀ i, i < n → 0 ≤ Y i ∧ Y i < G) := hY
  have HF : Hid (∀ x, x < G → w.cell? ⟨fb, x, none⟩ = some (.int .i64 (F x))) := hf
  clear hc hY hf
  go_enter Try.func55, Try.ntmps55
  go_wp2
  go_loopw [6, 7] (fun l i wr => ∃ (k : Nat) (m : Int), k ≤ n ∧ i = .int .i64 k ∧ l = .int .i64 m ∧ Hid (best (fun x => decide (F x = d)) Y k = m ∧ ∃ q, wr = w.drewN q)) (fun _ i _ => n - (intOf i).toNat)
  case atStart => exact ⟨0, -1, Nat.zero_le _, rfl, rfl, hid ⟨rfl, 0, rfl⟩⟩
  case round =>
    obtain ⟨k, m, hk, rfl, rfl, HM0⟩ := hrel
    obtain ⟨hm0, q, rfl⟩ := HM0.out
    have HM : Hid (best (fun x => decide (F x = d)) Y k = m) := hm0
    clear HM0 hm0
    by_cases hlt : k < n
    · obtain rfl := ha (by omega)
      obtain ⟨t, ht⟩ : ∃ t : Nat, Y k = t := ⟨(Y k).toNat, by have := HY.out k hlt; omega⟩
      have htG : t < G := by have := HY.out k hlt; omega
      have htz : (t : Int) < G := by omega
      have hkz : (k : Int) < n := by omega
      have hcell := HC.out k hlt
      rw [ht] at hcell
      have HT : Hid (Y k = t) := ht
      have hcf := HF.out t htG
      have hrg : m = -1 ∨ 0 ≤ m := by
        have := best_range (p := fun x => decide (F x = d)) (n := k) (G := G) (fun i hi => HY.out i (by omega))
        rw [HM.out] at this
        rcases this with h | h
        · exact Or.inl h
        · exact Or.inr h.1
      clear ht
      by_cases hd : F t = d
      · have hd2 : (F t == d) = true := beq_iff_eq.2 hd
        have HP : Hid (decide (F t = d) = true) := decide_eq_true hd
        clear hd
        rcases hrg with h1 | h1
        · have HX : Hid (m = -1 ∨ (t : Int) < m) := Or.inl h1
          have hneg : m < 0 := by omega
          clear h1
          go_wp2
          go_quiet (fail)
          go_wp2
          go_roundw
          case rel => exact ⟨k + 1, t, by omega, by go_num, rfl, hid ⟨best_hit HM.out HT.out HP.out HX.out, _, rfl⟩⟩
          case measure => simp [intOf]; omega
        · have hneg : decide (m < 0) = false := by simp; omega
          by_cases h2 : (t : Int) < m
          · have HX : Hid (m = -1 ∨ (t : Int) < m) := Or.inr h2
            go_wp2
            go_quiet (fail)
            go_wp2
            go_roundw
            case rel => exact ⟨k + 1, t, by omega, by go_num, rfl, hid ⟨best_hit HM.out HT.out HP.out HX.out, _, rfl⟩⟩
            case measure => simp [intOf]; omega
          · have HX : Hid (¬ (decide (F t = d) = true ∧ (m = -1 ∨ (t : Int) < m))) := fun hh => hh.2.elim (fun e => by omega) h2
            go_wp2
            go_quiet (fail)
            go_wp2
            go_roundw
            case rel => exact ⟨k + 1, m, by omega, by go_num, rfl, hid ⟨best_miss HM.out HT.out HX.out, _, rfl⟩⟩
            case measure => simp [intOf]; omega
      · have hd2 : (F t == d) = false := beq_eq_false_iff_ne.2 hd
        have HP : Hid (¬ (decide (F t = d) = true ∧ (m = -1 ∨ (t : Int) < m))) := fun hh => by simp [hd] at hh
        clear hd
        go_wp2
        go_quiet (fail)
        go_wp2
        go_roundw
        case rel => exact ⟨k + 1, m, by omega, by go_num, rfl, hid ⟨best_miss HM.out HT.out HP.out, _, rfl⟩⟩
        case measure => simp [intOf]; omega
    · go_wp2
      obtain rfl : k = n := by omega
      go_ret
      exact ⟨ret_int HM.out.symm, q, rfl⟩

/-- The memory of the document's Way: far's row, and the variable that the closure takes. -/
structure Rf (w wr : World) (G : Nat) (F : Nat → Int) : Prop where
  below : Below w.heap.size w wr
  far : wr.rowIs w.heap.size 3 G (fun x => .int .i64 (F x))
  var : wr.rowIs (w.heap.size + 1) 26 1 (fun _ => .slice (some ⟨w.heap.size, 0, none⟩) G G)

theorem rf_start (w : World) (G : Nat) : Rf w ((w.alloc (.cells (madeCells #[.int .i64 0] G) 3)).alloc (.cells #[.slice (some ⟨w.heap.size, 0, none⟩) G G] 26)) G (fun _ => 0) :=
  ⟨((Below.refl _ _).alloc (Nat.le_refl _) _).alloc (by simp) _, (World.rowIs_made w (.int .i64 0) G 3).alloc _, rowIs_lit _ _ 26 _ 1 _ (by simp) rfl (fun i hi => by
    have : i = 0 := by omega
    subst this
    rfl)⟩

theorem Rf.set {w wr : World} {G : Nat} {F : Nat → Int} (h : Rf w wr G F) (x : Nat) (d : Int) : Rf w (wr.setCell ⟨w.heap.size, x, none⟩ (.int .i64 d)) G (upd F x d) := by
  refine ⟨h.below.setCell (Nat.le_refl _) _, (h.far.set x _).congr (fun i _ => ?_), h.var.setOther (by show w.heap.size + 1 ≠ w.heap.size; omega) _⟩
  by_cases e : i = x <;> simp [upd, e]

theorem Rf.congrF {w wr : World} {G : Nat} {F F' : Nat → Int} (h : Rf w wr G F) (e : ∀ x, x < G → F x = F' x) : Rf w wr G F' := ⟨h.below, h.far.congr (fun x hx => by rw [e x hx]), h.var⟩

theorem Rf.drewN {w wr : World} {G : Nat} {F : Nat → Int} (h : Rf w wr G F) (q : Nat) : Rf w (wr.drewN q) G F := ⟨below_drewN h.below q, h.far, h.var⟩

section
variable {L : Nat → Nat} {Z : Nat → Nat → Int} {T : Nat → Bool}

/-- The row while round r + 1 is made, the first k done. -/
def lvk (L : Nat → Nat) (Z : Nat → Nat → Int) (T : Nat → Bool) (r k x : Nat) : Int := if x < k then lev L Z T (r + 1) x else lev L Z T r x

theorem lev_keep {r x : Nat} (h : lev L Z T r x ≠ 0) : lev L Z T (r + 1) x = lev L Z T r x := by
  simp only [lev]
  rw [if_neg (fun hh => h hh.1)]
theorem lev_none {r x : Nat} (h : ∀ j, j < L x → lev L Z T r (Z x j).toNat ≠ (r : Int) + 1) : lev L Z T (r + 1) x = lev L Z T r x := by
  simp only [lev]
  rw [if_neg (fun hh => by obtain ⟨j, hj, e⟩ := hh.2; exact h j hj e)]
theorem lev_hit {r x j : Nat} (h0 : lev L Z T r x = 0) (hj : j < L x) (h : lev L Z T r (Z x j).toNat = (r : Int) + 1) : lev L Z T (r + 1) x = (r : Int) + 2 := by
  simp only [lev]
  rw [if_pos ⟨h0, j, hj, h⟩]

theorem lev_same {r x : Nat} : lev L Z T (r + 1) x = (r : Int) + 1 ↔ lev L Z T r x = (r : Int) + 1 := by
  constructor
  · intro h
    by_cases h0 : lev L Z T r x = 0
    · by_cases hex : ∃ i, i < L x ∧ lev L Z T r (Z x i).toNat = (r : Int) + 1
      · obtain ⟨i, hi, e⟩ := hex
        rw [lev_hit h0 hi e] at h
        omega
      · rw [lev_none (fun j hj e => hex ⟨j, hj, e⟩), h0] at h
        omega
    · rw [lev_keep h0] at h
      exact h
  · intro h
    rw [lev_keep (by omega)]
    exact h

theorem lvk_see {r k y : Nat} (h0 : lev L Z T r k = 0) : upd (lvk L Z T r k) k 0 y = (r : Int) + 1 ↔ lev L Z T r y = (r : Int) + 1 := by
  by_cases e : y = k
  · subst e; rw [upd_at, h0]
  · rw [upd_ne _ _ _ _ e]
    unfold lvk
    by_cases h : y < k
    · rw [if_pos h]; exact lev_same
    · rw [if_neg h]

theorem lvk_next {r k : Nat} (x : Nat) : upd (lvk L Z T r k) k (lev L Z T (r + 1) k) x = lvk L Z T r (k + 1) x := by
  by_cases e : x = k
  · subst e; rw [upd_at]; unfold lvk; rw [if_pos (by omega)]
  · rw [upd_ne _ _ _ _ e]
    unfold lvk
    by_cases h : x < k
    · rw [if_pos h, if_pos (by omega)]
    · rw [if_neg h, if_neg (by omega)]

theorem lvk_self {r k : Nat} (x : Nat) : lvk L Z T r k x = upd (lvk L Z T r k) k (lev L Z T r k) x := by
  by_cases e : x = k
  · subst e; rw [upd_at]; unfold lvk; rw [if_neg (by omega)]
  · rw [upd_ne _ _ _ _ e]

/-- What the innermost loop has found of node k, by the first i of its list. -/
def Found (L : Nat → Nat) (Z : Nat → Nat → Int) (T : Nat → Bool) (r k i : Nat) (v : Int) : Prop :=
  (v = lev L Z T r k ∧ (lev L Z T r k = 0 → ∀ j, j < i → lev L Z T r (Z k j).toNat ≠ (r : Int) + 1)) ∨ (v = (r : Int) + 2 ∧ lev L Z T (r + 1) k = (r : Int) + 2)

theorem Found.start (r k : Nat) : Found L Z T r k 0 (lev L Z T r k) := Or.inl ⟨rfl, fun _ j hj => by omega⟩
theorem Found.stop {r k i : Nat} {v : Int} (h : Found L Z T r k i v) (hv : v ≠ 0 ∨ ¬ i < L k) : v = lev L Z T (r + 1) k := by
  rcases h with ⟨rfl, h⟩ | ⟨rfl, h⟩
  · by_cases h0 : lev L Z T r k = 0
    · rcases hv with hv | hv
      · exact absurd h0 hv
      · rw [lev_none (fun j hj => h h0 j (by omega))]
    · rw [lev_keep h0]
  · exact h.symm
theorem Found.zero {r k i : Nat} (h : Found L Z T r k i 0) : lev L Z T r k = 0 ∧ ∀ j, j < i → lev L Z T r (Z k j).toNat ≠ (r : Int) + 1 := by
  rcases h with ⟨e, h⟩ | ⟨e, _⟩
  · exact ⟨e.symm, h e.symm⟩
  · omega
end

theorem own_one (w : World) (base : Nat) (x : Int) (hb : base ≤ w.heap.size) : (w.alloc (.cells #[.int .i64 x] 3)).ownsRow base 3 1 (.slice (some ⟨w.heap.size, 0, none⟩) 1 1) 1 (vals [x]) :=
  ⟨rfl, .inr ⟨w.heap.size, 1, #[.int .i64 x], rfl, hb, heap_alloc_new w _, Nat.le_refl _, by unfold maxLen; omega, rfl, rfl⟩⟩

theorem refWay_step {w wr w1 : World} {G : Nat} {F : Nat → Int} {v v' : Value} {k : Nat} {l : List Int} {x : Int} {o : Obj} (hr : Rf w wr G F) (ho : wr.ownsRow (w.heap.size + 1 + 1) 3 1 v k (vals l)) (hown : w1.ownsRow (w.heap.size + 1 + 1) 3 1 v' (k + 1) (vals l ++ [.int .i64 x])) (hg : (wr.alloc o).grownBy w1 v.ownBlock) :
    (∃ a c, v' = .slice a (k + 1) c) ∧ Hid (Rf w w1 G F ∧ w1.ownsRow (w.heap.size + 1 + 1) 3 1 v' (k + 1) (vals (l ++ [x]))) := by
  have hlt : ∀ j, v.ownBlock = some j → w.heap.size + 1 + 1 ≤ j := fun j hj => (ho.lt j hj).1
  have hg' := (World.grownBy_alloc wr o v.ownBlock).trans hg
  have hv := hr.var.lt
  have keep : ∀ b, b < w.heap.size + 1 + 1 → w1.heap[b]? = wr.heap[b]? := fun b hb => hg'.block b (by omega) (fun e => by have := hlt _ e.symm; omega)
  refine ⟨?_, ⟨hr.below.grown hg' hr.below.size (fun j hj => by have := hlt j hj; omega), hr.far.of_block (keep _ (by omega)), hr.var.of_block (keep _ (by omega))⟩, by rw [← vals_snoc]; exact hown⟩
  rcases hown.2 with ⟨_, h0⟩ | ⟨g, cap, cur, rfl, _⟩
  · omega
  · exact ⟨_, _, rfl⟩

theorem ref_none {G : Nat} {L : Nat → Nat} {Z : Nat → Nat → Int} {T : Nat → Bool} {n : Nat} {Y : Nat → Int} (hZ : ∀ x, x < G → ∀ i, i < L x → 0 ≤ Z x i ∧ Z x i < G) (hY : ∀ i, i < n → 0 ≤ Y i ∧ Y i < G) (h : ∀ x, x < G → T x = true → ¬ Comes G L Z n Y x) (d : Nat) (hd : 1 ≤ d) (hdG : d ≤ G) :
    best (fun x => decide (lev L Z T G x = (d : Int))) Y n = -1 := by
  by_cases hb : best (fun x => decide (lev L Z T G x = (d : Int))) Y n = -1
  · exact hb
  · obtain ⟨i, hi, _, hp⟩ := best_some n hb
    have hy := hY i hi
    simp only [decide_eq_true_eq] at hp
    have hm := (lev_iff (r := G) (k := d - 1) hZ (x := (Y i).toNat) (by omega) (by omega)).1 (by rw [hp]; omega)
    obtain ⟨t, ht, hT, hw⟩ := wk_bk (P := fun x : Nat => ∃ i, i < n ∧ Y i = (x : Int)) (k := 0) (x := (Y i).toNat) ⟨i, hi, by omega⟩ hm.1 (by omega) hZ
    exact absurd ⟨_, by rw [src_eq, ed_ego]; exact hw⟩ (h t ht hT)

theorem Near.from0 {G : Nat} {L : Nat → Nat} {Z : Nat → Nat → Int} {T : Nat → Bool} {n : Nat} {Y : Nat → Int} {F : Nat → Int} {len : Nat} (h : Near G L Z T n Y F len) {i : Nat} (hi : i < n) : F (Y i).toNat = 0 := by
  have := h.hY i hi
  obtain ⟨h1, h2⟩ := h.all 0 (Y i).toNat (by omega) ⟨i, hi, by omega⟩
  have := (h.snd (Y i).toNat (by omega) h1).1
  omega

theorem Near.early {G : Nat} {L : Nat → Nat} {Z : Nat → Nat → Int} {T : Nat → Bool} {n : Nat} {Y : Nat → Int} {F : Nat → Int} {len : Nat} (h : Near G L Z T n Y F len) (d : Nat) (hd : 1 ≤ d) (hdl : d ≤ len) :
    best (fun x => decide (lev L Z T G x = (d : Int))) Y n = -1 := by
  have hl := h.lenG
  by_cases hb : best (fun x => decide (lev L Z T G x = (d : Int))) Y n = -1
  · exact hb
  · obtain ⟨i, hi, _, hp⟩ := best_some n hb
    have hy := h.hY i hi
    simp only [decide_eq_true_eq] at hp
    have hm := (lev_iff (r := G) (k := d - 1) h.hZ (x := (Y i).toNat) (by omega) (by omega)).1 (by rw [hp]; omega)
    have h0 := h.from0 hi
    have := h.far (x := (Y i).toNat) (by omega) (by omega) hm.1
    omega

theorem byLev_eq {G : Nat} {L : Nat → Nat} {Z : Nat → Nat → Int} {T : Nat → Bool} {len s k : Nat} (h : k + s = len + 1) : (fun x => decide (lev L Z T G x = (k : Int))) = byLev G L Z T len s := by
  funext x
  unfold byLev
  rw [show (k : Int) = (len : Int) + 1 - s from by omega]

set_option maxHeartbeats 2000000 in
theorem refWay_any (ga : Option Addr) (G gc : Nat) (L : Nat → Nat) (Z : Nat → Nat → Int) (a : Option Addr) (n c : Nat) (Y : Nat → Int) (ta : Option Addr) (tc : Nat) (T : Nat → Bool) (w : World) (hL : ∀ r, r < G → L r ≤ 140737488355328) (hn : n ≤ 140737488355328) (h : Gr w ga G L Z) (hrow : Row w a n Y)
    (ht : Rowb w ta G T) (h0 : errF G L Z n Y = 0) (hW : (∀ x, x < G → T x = true → ¬ Comes G L Z n Y x) ∨ ∃ (F : Nat → Int) (len : Nat), Near G L Z T n Y F len) :
    Calls Try.prog 33 #[.slice ga G gc, .slice a n c, .slice ta G tc] w fun e w' => ∃ v is, e = .returned (.tuple #[v, .bool is]) ∧ Below w.heap.size w w' ∧ WayIs G L Z T n Y w w' v is := by
  obtain ⟨hg, hin⟩ := errF_zero h0
  obtain ⟨hG, hZ⟩ := errG_zero hg
  have HL : Hid (∀ r, r < G → L r ≤ 140737488355328) := hL
  have HZ : Hid (∀ x, x < G → ∀ i, i < L x → 0 ≤ Z x i ∧ Z x i < G) := hZ
  have HY : Hid (∀ i, i < n → 0 ≤ Y i ∧ Y i < G) := hin
  have HG : Hid (Gr w ga G L Z) := h
  have HA : Hid (Row w a n Y) := hrow
  obtain ⟨tb, to, hta, htc⟩ := ht
  have HTC : Hid (∀ x, x < G → w.cell? ⟨tb, to + x, none⟩ = some (.bool (T x))) := htc
  have HTA : Hid (0 < G → ta = some ⟨tb, to, none⟩) := hta
  have HWW : Hid ((∀ x, x < G → T x = true → ¬ Comes G L Z n Y x) ∨ ∃ (F : Nat → Int) (len : Nat), Near G L Z T n Y F len) := hW
  clear h hrow hL hg hin h0 hZ htc hta hW
  have hmk := run_make_row' (P := Try.prog) 26 3 (.int .i64 0) 8 Try.underlying26 Try.info3 rfl .i64 .i64 G (by omega) (by omega)
  go_enter Try.func33, Try.ntmps33
  go_wp2
  clear hmk
  go_loopw [9] (fun i wr => ∃ k : Nat, k ≤ G ∧ i = .int .i64 k ∧ Hid (Rf w wr G (fun x => if x < k then lev L Z T 0 x else 0))) (fun i _ => G - (intOf i).toNat)
  case atStart => exact ⟨0, Nat.zero_le _, rfl, hid ((rf_start w G).congrF (fun x _ => by rw [if_neg (by omega)]))⟩
  case round =>
    obtain ⟨k, hk, rfl, HR⟩ := hrel
    by_cases hlt : k < G
    · obtain rfl := HTA.out (by omega)
      have hkz : (k : Int) < G := by omega
      have hct : wr.cell? ⟨tb, to + k, none⟩ = some (.bool (T k)) := by
        rw [HR.out.below.cell (p := ⟨tb, to + k, none⟩) (World.block_lt_of_cell? _ _ (HTC.out k hlt))]; exact HTC.out k hlt
      have hv := HR.out.var.cell (i := 0) (by omega)
      have hfk := HR.out.far.cell hlt
      have hfz := HR.out.far.frozen k
      cases hT : T k
      · rw [hT] at hct
        have HE : Hid (lev L Z T 0 k = 0) := hid (by simp [lev, hT])
        clear hT
        go_wp2
        go_roundw
        case rel =>
          refine ⟨k + 1, by omega, by go_num, hid (HR.out.congrF (fun x hx => ?_))⟩
          by_cases e : x = k
          · subst e; rw [if_neg (by omega), if_pos (by omega), HE.out]
          · by_cases e2 : x < k
            · rw [if_pos e2, if_pos (by omega)]
            · rw [if_neg e2, if_neg (by omega)]
        case measure => simp [intOf]; omega
      · rw [hT] at hct
        have HE : Hid (lev L Z T 0 k = 1) := hid (by simp [lev, hT])
        clear hT
        go_wp2
        go_roundw
        case rel =>
          refine ⟨k + 1, by omega, by go_num, hid ((HR.out.set k 1).congrF (fun x hx => ?_))⟩
          by_cases e : x = k
          · subst e; rw [upd_at, if_pos (by omega), HE.out]
          · rw [upd_ne _ _ _ _ e]
            by_cases e2 : x < k
            · rw [if_pos e2, if_pos (by omega)]
            · rw [if_neg e2, if_neg (by omega)]
        case measure => simp [intOf]; omega
    · have HR0 : Hid (Rf w wr G (lev L Z T 0)) := HR.out.congrF (fun x hx => by rw [if_pos (by omega)])
      clear HR
      go_wp2
      go_loopw [10] (fun i wr => ∃ r : Nat, r ≤ G ∧ i = .int .i64 ((r : Int) + 1) ∧ Hid (Rf w wr G (lev L Z T r))) (fun i _ => G + 1 - (intOf i).toNat)
      case atStart => exact ⟨0, Nat.zero_le _, rfl, HR0⟩
      case round =>
        obtain ⟨r, hr, rfl, HR⟩ := hrel
        clear HR0
        by_cases hrG : r < G
        · have hrz : (r : Int) + 1 ≤ G := by omega
          go_wp2
          go_loopw [11] (fun i wr => ∃ k : Nat, k ≤ G ∧ i = .int .i64 k ∧ Hid (Rf w wr G (lvk L Z T r k))) (fun i _ => G - (intOf i).toNat)
          case atStart => exact ⟨0, Nat.zero_le _, rfl, hid (HR.out.congrF (fun x _ => by unfold lvk; rw [if_neg (by omega)]))⟩
          case round =>
            obtain ⟨k2, hk2, rfl, HR2⟩ := hrel
            clear HR
            by_cases hlt2 : k2 < G
            · have hkz2 : (k2 : Int) < G := by omega
              obtain ⟨gb, go, hga, hgc⟩ := HG.out
              obtain rfl := hga (by omega)
              obtain ⟨a4, c4, hg0, hr0⟩ := hgc k2 hlt2
              have HG0 : Hid (w.cell? ⟨gb, go + k2, none⟩ = some (.slice a4 (L k2) c4)) := hg0
              have HR4 : Hid (Row w a4 (L k2) (Z k2)) := hr0
              have hLk := HL.out k2 hlt2
              clear hg0 hr0 hgc hga
              go_wp2
              go_loopw [12] (fun i wr => ∃ (j : Nat) (v : Int), j ≤ L k2 ∧ i = .int .i64 j ∧ Hid (Rf w wr G (upd (lvk L Z T r k2) k2 v) ∧ Found L Z T r k2 j v)) (fun i _ => L k2 - (intOf i).toNat)
              case atStart => exact ⟨0, _, Nat.zero_le _, rfl, hid ⟨HR2.out.congrF (fun x _ => lvk_self x), Found.start r k2⟩⟩
              case round =>
                obtain ⟨j, v, hj, rfl, HX⟩ := hrel
                clear HR2
                have hgk : wr.cell? ⟨gb, go + k2, none⟩ = some (.slice a4 (L k2) c4) := by
                  rw [HX.out.1.below.cell (p := ⟨gb, go + k2, none⟩) (World.block_lt_of_cell? _ _ HG0.out)]; exact HG0.out
                have hv := HX.out.1.var.cell (i := 0) (by omega)
                have hfk := HX.out.1.far.cell hlt2
                rw [upd_at] at hfk
                have hfz := HX.out.1.far.frozen k2
                by_cases hjl : j < L k2
                · have hjz : (j : Int) < (L k2 : Int) := by omega
                  by_cases hv0 : v = 0
                  · subst hv0
                    obtain ⟨hl0, hno⟩ := HX.out.2.zero
                    have HN : Hid (lev L Z T r k2 = 0 ∧ ∀ j', j' < j → lev L Z T r (Z k2 j').toNat ≠ (r : Int) + 1) := ⟨hl0, hno⟩
                    obtain ⟨b', o', ha', hc'⟩ := HR4.out
                    obtain rfl := ha' (by omega)
                    obtain ⟨t, ht⟩ : ∃ t : Nat, Z k2 j = t := ⟨(Z k2 j).toNat, by have := HZ.out k2 hlt2 j hjl; omega⟩
                    have htG : t < G := by have := HZ.out k2 hlt2 j hjl; omega
                    have htz : (t : Int) < G := by omega
                    have hcell : wr.cell? ⟨b', o' + j, none⟩ = some (.int .i64 t) := by
                      rw [HX.out.1.below.cell (p := ⟨b', o' + j, none⟩) (World.block_lt_of_cell? _ _ (hc' j hjl)), hc' j hjl, ht]
                    have HT2 : Hid (Z k2 j = t) := ht
                    have hft := HX.out.1.far.cell htG
                    have hsee := lvk_see (L := L) (Z := Z) (T := T) (r := r) (k := k2) (y := t) hl0
                    have HSEE : Hid (upd (lvk L Z T r k2) k2 0 t = (r : Int) + 1 ↔ lev L Z T r t = (r : Int) + 1) := hsee
                    clear hc' ha' ht hl0 hno hsee
                    generalize upd (lvk L Z T r k2) k2 0 t = u at *
                    by_cases hu : u = (r : Int) + 1
                    · have hub : (u == (r : Int) + 1) = true := beq_iff_eq.2 hu
                      have HH : Hid (lev L Z T (r + 1) k2 = (r : Int) + 2) := lev_hit HN.out.1 hjl (by rw [HT2.out, Int.toNat_natCast]; exact HSEE.out.1 hu)
                      clear hu
                      go_wp2
                      go_quiet (fail)
                      go_wp2
                      go_roundw
                      case rel => exact ⟨j + 1, (r : Int) + 2, by omega, by go_num, hid ⟨((HX.out.1.drewN nq).set k2 _).congrF (fun x _ => by by_cases e : x = k2 <;> simp [upd, e] <;> omega), Or.inr ⟨rfl, HH.out⟩⟩⟩
                      case measure => simp [intOf]; omega
                    · have hub : (u == (r : Int) + 1) = false := beq_eq_false_iff_ne.2 hu
                      have HH : Hid (Found L Z T r k2 (j + 1) 0) := Or.inl ⟨HN.out.1.symm, fun _ => snoc_all HN.out.2 (fun e => hu (HSEE.out.2 (by rw [HT2.out, Int.toNat_natCast] at e; exact e)))⟩
                      clear hu
                      go_wp2
                      go_quiet (fail)
                      go_wp2
                      go_roundw
                      case rel => exact ⟨j + 1, 0, by omega, by go_num, hid ⟨HX.out.1.drewN nq, HH.out⟩⟩
                      case measure => simp [intOf]; omega
                  · have hvb : (v == 0) = false := beq_eq_false_iff_ne.2 hv0
                    have HS : Hid (v = lev L Z T (r + 1) k2) := HX.out.2.stop (Or.inl hv0)
                    clear hv0
                    go_wp2
                    go_roundw
                    case rel => exact ⟨k2 + 1, by omega, by go_num, hid (HX.out.1.congrF (fun x _ => by rw [HS.out]; exact lvk_next x))⟩
                    case measure => simp [intOf]; omega
                · have HS : Hid (v = lev L Z T (r + 1) k2) := HX.out.2.stop (Or.inr hjl)
                  go_wp2
                  go_roundw
                  case rel => exact ⟨k2 + 1, by omega, by go_num, hid (HX.out.1.congrF (fun x _ => by rw [HS.out]; exact lvk_next x))⟩
                  case measure => simp [intOf]; omega
            · go_wp2
              go_roundw
              case rel => exact ⟨r + 1, by omega, by go_num, hid (HR2.out.congrF (fun x hx => by unfold lvk; rw [if_pos (by omega)]))⟩
              case measure => simp [intOf]; omega
        · have HRG : Hid (Rf w wr G (lev L Z T G)) := by
            have e : r = G := by omega
            rw [e] at HR
            exact HR
          have hrz : ¬ (r : Int) + 1 ≤ G := by omega
          clear HR
          rcases HWW.out with hno | ⟨F, len, hN⟩
          · have HNO : Hid (∀ x, x < G → T x = true → ¬ Comes G L Z n Y x) := hno
            clear hno HWW
            go_wp2
            go_loopw [14] (fun i wr => ∃ d : Nat, 1 ≤ d ∧ d ≤ G + 1 ∧ i = .int .i64 d ∧ Hid (Rf w wr G (lev L Z T G))) (fun i _ => G + 1 - (intOf i).toNat)
            case atStart => exact ⟨1, Nat.le_refl _, by omega, rfl, HRG⟩
            case round =>
              obtain ⟨d, hd1, hd, rfl, HR⟩ := hrel
              clear HRG
              by_cases hdG : d ≤ G
              · have hdz : (d : Int) ≤ G := by omega
                have C := refBest_any a n c G w.heap.size (w.heap.size + 1) Y (lev L Z T G) d wr hn (HA.out.below HR.out.below) HY.out (HR.out.var.cell (i := 0) (by omega)) (fun x hx => HR.out.far.cell hx)
                rw [ref_none HZ.out HY.out HNO.out d hd1 hdG] at C
                have HC : Hid (Calls Try.prog 55 #[.slice a n c, .int .i64 d, .pointer (some ⟨w.heap.size + 1, 0, none⟩)] wr fun e w' => e = .returned (.int .i64 (-1)) ∧ ∃ q, w' = wr.drewN q) := C
                clear C
                go_wp2_with fail
                refine HC.out.mono ?_
                rintro e w1 ⟨rfl, q, rfl⟩
                go_wp2
                go_roundw
                case rel => exact ⟨d + 1, by omega, by omega, by go_num, hid (HR.out.drewN q)⟩
                case measure => simp [intOf]; omega
              · have hdz : ¬ (d : Int) ≤ G := by omega
                go_wp2
                go_ret2
                exact ⟨_, Or.inl ⟨rfl, HR.out.below, Or.inl ⟨rfl, rfl, HNO.out⟩⟩⟩
          · have HN : Hid (Near G L Z T n Y F len) := hN
            have hlG := hN.lenG
            obtain ⟨i0, hi, hz0, hz1, hz2⟩ := info_parts Try.info3
            have HI : Hid (Try.prog.info? 3 = some i0 ∧ i0.zero = some (.int .i64 0) ∧ i0.size = 1 ∧ i0.bytes = 8) := ⟨hi, hz0, hz1, hz2⟩
            clear hN HWW hi hz0 hz1 hz2
            go_wp2
            go_loopw [14] (fun i wr => ∃ d : Nat, 1 ≤ d ∧ d ≤ len + 1 ∧ i = .int .i64 d ∧ Hid (Rf w wr G (lev L Z T G))) (fun i _ => G + 1 - (intOf i).toNat)
            case atStart => exact ⟨1, Nat.le_refl _, by omega, rfl, HRG⟩
            case round =>
              obtain ⟨d, hd1, hd, rfl, HR⟩ := hrel
              clear HRG
              have hdz : (d : Int) ≤ G := by omega
              have C := refBest_any a n c G w.heap.size (w.heap.size + 1) Y (lev L Z T G) d wr hn (HA.out.below HR.out.below) HY.out (HR.out.var.cell (i := 0) (by omega)) (fun x hx => HR.out.far.cell hx)
              by_cases hdl : d ≤ len
              · rw [HN.out.early d hd1 hdl] at C
                have HC : Hid (Calls Try.prog 55 #[.slice a n c, .int .i64 d, .pointer (some ⟨w.heap.size + 1, 0, none⟩)] wr fun e w' => e = .returned (.int .i64 (-1)) ∧ ∃ q, w' = wr.drewN q) := C
                clear C
                go_wp2_with fail
                refine HC.out.mono ?_
                rintro e w1 ⟨rfl, q, rfl⟩
                go_wp2
                go_roundw
                case rel => exact ⟨d + 1, by omega, by omega, by go_num, hid (HR.out.drewN q)⟩
                case measure => simp [intOf]; omega
              · obtain rfl : d = len + 1 := by omega
                obtain ⟨_, x0, ex0, hx0, _, _⟩ := HN.out.nodes 0 (Nat.zero_le _)
                rw [byLev_eq (s := 0) rfl] at C
                rw [show best (byLev G L Z T len 0) Y n = (x0 : Int) from ex0] at C
                have HC : Hid (Calls Try.prog 55 #[.slice a n c, .int .i64 ((len : Int) + 1), .pointer (some ⟨w.heap.size + 1, 0, none⟩)] wr fun e w' => e = .returned (.int .i64 x0) ∧ ∃ q, w' = wr.drewN q) := C
                have EX0 : Hid (nd L Z n Y (byLev G L Z T len) 0 = (x0 : Int)) := ex0
                clear C ex0
                go_wp2_with fail
                refine HC.out.mono ?_
                rintro e w1 ⟨rfl, q, rfl⟩
                clear HC
                have hx0z : ¬ (x0 : Int) < 0 := by omega
                have hx0G : (x0 : Int) < G := by omega
                go_wp2
                have HR1 : Hid (Rf w (wr.drewN q) G (lev L Z T G)) := HR.out.drewN q
                clear HR
                go_loopw [15, 16, 17] (fun sa so sk wr => ∃ (i : Nat) (x : Nat) (oa : Option Addr) (oc : Nat), i ≤ len ∧ x < G ∧ sa = .int .i64 x ∧ so = .slice oa (i + 1) oc ∧ sk = .int .i64 ((len : Int) - i) ∧
                    Hid (nd L Z n Y (byLev G L Z T len) i = (x : Int) ∧ Rf w wr G (lev L Z T G) ∧ wr.ownsRow (w.heap.size + 1 + 1) 3 1 (.slice oa (i + 1) oc) (i + 1) (vals (wayL L Z n Y (byLev G L Z T len) (i + 1))))) (fun _ _ sk _ => (intOf sk).toNat)
                case atStart =>
                  refine ⟨0, x0, _, _, Nat.zero_le _, hx0, rfl, rfl, ?_, hid ⟨EX0.out, ⟨HR1.out.below.alloc HR1.out.below.size _, HR1.out.far.alloc _, HR1.out.var.alloc _⟩, ?_⟩⟩
                  · go_num
                  · have e : wayL L Z n Y (byLev G L Z T len) (0 + 1) = [(x0 : Int)] := by rw [wayL_succ]; simp [wayL, EX0.out]
                    rw [e]
                    exact own_one (wr.drewN q) (w.heap.size + 1 + 1) x0 (by have := HR1.out.var.lt; simp at this ⊢; omega)
                case round =>
                  obtain ⟨i, x, oa, oc, hil, hx, rfl, rfl, rfl, HX⟩ := hrel
                  clear HR1
                  have hxG : (x : Int) < G := by omega
                  by_cases hmore : i < len
                  · have hkz : (0 : Int) < (len : Int) - i := by omega
                    obtain ⟨gb, go, hga, hgc⟩ := HG.out
                    obtain rfl := hga (by omega)
                    obtain ⟨a4, c4, hg0, hr0⟩ := hgc x hx
                    have hgx : wr.cell? ⟨gb, go + x, none⟩ = some (.slice a4 (L x) c4) := by
                      rw [HX.out.2.1.below.cell (p := ⟨gb, go + x, none⟩) (World.block_lt_of_cell? _ _ hg0)]; exact hg0
                    obtain ⟨_, y, ey, hy, _, _⟩ := HN.out.nodes (i + 1) (by omega)
                    have C := refBest_any a4 (L x) c4 G w.heap.size (w.heap.size + 1) (Z x) (lev L Z T G) ((len : Int) - i) wr (HL.out x hx) (hr0.below HX.out.2.1.below) (HZ.out x hx) (HX.out.2.1.var.cell (i := 0) (by omega)) (fun x hx => HX.out.2.1.far.cell hx)
                    have e1 : (fun x => decide (lev L Z T G x = (len : Int) - i)) = byLev G L Z T len (i + 1) := by
                      rw [← byLev_eq (k := len - i) (by omega)]
                      funext x
                      rw [show ((len - i : Nat) : Int) = (len : Int) - i from by omega]
                    have e2 : best (byLev G L Z T len (i + 1)) (Z x) (L x) = (y : Int) := by
                      rw [← ey]
                      show _ = best _ (Z (nd L Z n Y (byLev G L Z T len) i).toNat) (L (nd L Z n Y (byLev G L Z T len) i).toNat)
                      rw [HX.out.1, Int.toNat_natCast]
                    rw [e1, e2] at C
                    have HC : Hid (Calls Try.prog 55 #[.slice a4 (L x) c4, .int .i64 ((len : Int) - i), .pointer (some ⟨w.heap.size + 1, 0, none⟩)] wr fun e w' => e = .returned (.int .i64 y) ∧ ∃ q, w' = wr.drewN q) := C
                    have EY : Hid (nd L Z n Y (byLev G L Z T len) (i + 1) = (y : Int)) := ey
                    have HS : Hid (w.heap.size + 1 + 1 ≤ wr.heap.size) := HX.out.2.1.var.lt
                    clear C e1 e2 ey hg0 hr0 hgc hga
                    go_wp2_with fail
                    refine HC.out.mono ?_
                    rintro e w1 ⟨rfl, q2, rfl⟩
                    clear HC
                    have HO2 : Hid ((wr.drewN q2).ownsRow (w.heap.size + 1 + 1) 3 1 (.slice oa (i + 1) oc) (i + 1) (vals (wayL L Z n Y (byLev G L Z T len) (i + 1)))) := HX.out.2.2
                    go_wp2_with (at_builtin; refine wpList_append_own _ rfl _ _ 26 rfl (w.heap.size + 1 + 1) 3 i0 (.int .i64 0) 1 8 Try.underlying26 HI.out.1 HI.out.2.1 HI.out.2.2.1 HI.out.2.2.2 rfl (by decide) _ _ _ rfl (HO2.out.alloc _) ⟨wr.heap.size, 0, none⟩ 1 1 [.int .i64 y] rfl rfl (cell_one_new' _ _ _ _ (by simp)) (ints_oneCell .i64 [(y : Int)]) (by unfold maxLen; omega) (by omega) (by have := HS.out; simp; omega) ?_; intro v' w2 hown' hgrow _; obtain ⟨⟨a3, c3, rfl⟩, H3⟩ := refWay_step (HX.out.2.1.drewN q2) HO2.out hown' hgrow; clear hown' hgrow)
                    go_roundw
                    case rel =>
                      refine ⟨i + 1, y, a3, c3, by omega, hy, rfl, rfl, by go_num, hid ⟨EY.out, H3.out.1, ?_⟩⟩
                      rw [wayL_succ, EY.out]
                      exact H3.out.2
                    case measure => simp [intOf]; omega
                  · obtain rfl : i = len := by omega
                    have hkz : ¬ (0 : Int) < (i : Int) - i := by omega
                    have HF : Hid (Below w.heap.size w wr ∧ WayIs G L Z T n Y w wr (.slice oa (i + 1) oc) true) := by
                      refine ⟨HX.out.2.1.below, Or.inr ⟨rfl, F, i, HN.out, HX.out.2.2.1, HX.out.2.2.2.imp id ?_⟩⟩
                      rintro ⟨g, cap, cur, e1, hb, rest⟩
                      exact ⟨g, cap, cur, e1, by omega, rest⟩
                    go_wp2
                    go_ret2
                    exact ⟨_, Or.inr ⟨rfl, HF.out.1, HF.out.2⟩⟩

end Go.Proofs.Ytjenkhphngiphaa
