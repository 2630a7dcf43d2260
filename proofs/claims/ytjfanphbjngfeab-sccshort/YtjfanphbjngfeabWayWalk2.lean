/- leastWay and Way, by their contracts. -/
import Derived.Test.YtjfanphbjngfeabWayWalk
namespace Go.Proofs.Ytjfanphbjngfeab
open Go.RowKit

/-- Among what the d-th node is chosen. -/
def chN (L : Nat → Nat) (Z : Nat → Nat → Int) (n : Nat) (Y : Nat → Int) (p : Nat → Nat → Bool) : Nat → Nat
  | 0 => n
  | d + 1 => L (nd L Z n Y p d).toNat
def chY (L : Nat → Nat) (Z : Nat → Nat → Int) (n : Nat) (Y : Nat → Int) (p : Nat → Nat → Bool) : Nat → Nat → Int
  | 0 => Y
  | d + 1 => Z (nd L Z n Y p d).toNat

theorem nd_ch (L : Nat → Nat) (Z : Nat → Nat → Int) (n : Nat) (Y : Nat → Int) (p : Nat → Nat → Bool) : ∀ d, nd L Z n Y p d = best (p d) (chY L Z n Y p d) (chN L Z n Y p d)
  | 0 => rfl
  | _ + 1 => rfl

def wayL (L : Nat → Nat) (Z : Nat → Nat → Int) (n : Nat) (Y : Nat → Int) (p : Nat → Nat → Bool) (k : Nat) : List Int := (List.range k).map (nd L Z n Y p)
theorem wayL_succ (L : Nat → Nat) (Z : Nat → Nat → Int) (n : Nat) (Y : Nat → Int) (p : Nat → Nat → Bool) (k : Nat) : wayL L Z n Y p (k + 1) = wayL L Z n Y p k ++ [nd L Z n Y p k] := by simp [wayL, List.range_succ]
theorem wayL_len (L : Nat → Nat) (Z : Nat → Nat → Int) (n : Nat) (Y : Nat → Int) (p : Nat → Nat → Bool) (k : Nat) : (wayL L Z n Y p k).length = k := by simp [wayL]

theorem leastWay_step {w wr w1 : World} {v v' : Value} {k : Nat} {l : List Int} {x : Int} {o : Obj} (hb : Below w.heap.size w wr) (ho : wr.ownsRow w.heap.size 3 1 v k (vals l)) (hown : w1.ownsRow w.heap.size 3 1 v' (k + 1) (vals l ++ [.int .i64 x])) (hg : (wr.alloc o).grownBy w1 v.ownBlock) :
    (∃ a c, v' = .slice a (k + 1) c) ∧ Hid (Below w.heap.size w w1 ∧ w1.ownsRow w.heap.size 3 1 v' (k + 1) (vals (l ++ [x]))) := by
  refine ⟨?_, (hb.grown ((World.grownBy_alloc _ _ _).trans hg) hb.size (fun j hj => (ho.lt j hj).1)), by rw [← vals_snoc]; exact hown⟩
  rcases hown.2 with ⟨_, h0⟩ | ⟨g, cap, cur, rfl, _⟩
  · omega
  · exact ⟨_, _, rfl⟩

set_option maxHeartbeats 1000000 in
theorem leastWay_any (ga : Option Addr) (G gc : Nat) (L : Nat → Nat) (Z : Nat → Nat → Int) (a : Option Addr) (n c : Nat) (Y : Nat → Int) (fb lb : Nat) (F : Nat → Int) (B : Nat → Bool) (len : Nat) (w : World)
    (hG : G ≤ 20000) (hlen : len < G) (hL : ∀ r, r < G → L r ≤ 140737488355328) (hn : n ≤ 140737488355328) (hZ : ∀ x, x < G → ∀ i, i < L x → 0 ≤ Z x i ∧ Z x i < G) (hY : ∀ i, i < n → 0 ≤ Y i ∧ Y i < G) (h : Gr w ga G L Z) (ha : Row w a n Y)
    (hf : ∀ x, x < G → w.cell? ⟨fb, x, none⟩ = some (.int .i64 (F x))) (hb : ∀ x, x < G → w.cell? ⟨lb, x, none⟩ = some (.bool (B x)))
    (hnd : ∀ d, d ≤ len → ∃ x : Nat, nd L Z n Y (fun d x => B x && decide (F x = d)) d = (x : Int) ∧ x < G) :
    Calls Try.prog 20 #[.slice ga G gc, .slice a n c, .slice (some ⟨fb, 0, none⟩) G G, .slice (some ⟨lb, 0, none⟩) G G, .int .i64 len] w fun e w' => ∃ v, e = .returned v ∧ Below w.heap.size w w' ∧
      w'.ownsRow w.heap.size 3 1 v (len + 1) (vals (wayL L Z n Y (fun d x => B x && decide (F x = d)) (len + 1))) := by
  have HL : Hid (∀ r, r < G → L r ≤ 140737488355328) := hL
  have HZ : Hid (∀ x, x < G → ∀ i, i < L x → 0 ≤ Z x i ∧ Z x i < G) := hZ
  have HY : Hid (∀ i, i < n → 0 ≤ Y i ∧ Y i < G) := hY
  have HG : Hid (Gr w ga G L Z) := h
  have HA : Hid (Row w a n Y) := ha
  have HF : Hid (∀ x, x < G → w.cell? ⟨fb, x, none⟩ = some (.int .i64 (F x))) := hf
  have HB : Hid (∀ x, x < G → w.cell? ⟨lb, x, none⟩ = some (.bool (B x))) := hb
  clear hL hZ hY h ha hf hb
  obtain ⟨i0, hi, hz0, hz1, hz2⟩ := info_parts Try.info3
  have HI : Hid (Try.prog.info? 3 = some i0 ∧ i0.zero = some (.int .i64 0) ∧ i0.size = 1 ∧ i0.bytes = 8) := ⟨hi, hz0, hz1, hz2⟩
  have hmk : ∀ u : World, (Instr.makeSlice 23 (.int .i64 0) (.int .i64 ((len : Int) + 1))).run Try.prog u = .ok (.slice (some ⟨u.heap.size, 0, none⟩) 0 (len + 1)) (u.alloc (.cells (madeCells #[.int .i64 0] (len + 1)) 3)) := fun u => by
    have h := run_make (P := Try.prog) u 23 3 i0 (.int .i64 0) Try.underlying23 hi hz0 .i64 .i64 0 ((len : Int) + 1) (by omega) (by omega) (by rw [hz2]; omega) (by omega)
    have e : ((len : Int) + 1).toNat = len + 1 := by omega
    rw [e] at h
    simpa [hz1, Value.cells] using h
  clear hi hz0 hz1 hz2
  generalize hp : (fun d x => B x && decide (F x = (d : Nat)) : Nat → Nat → Bool) = p at *
  have HP : Hid (∀ d, p d = fun x => B x && decide (F x = (d : Nat))) := fun d => by rw [← hp]
  have HND : Hid (∀ d, d ≤ len → ∃ x : Nat, nd L Z n Y p d = (x : Int) ∧ x < G) := hnd
  clear hp hnd
  go_enter Try.func20, Try.ntmps20
  go_wp2
  clear hmk
  go_loopw [11, 12, 13] (fun sw sc i wr => ∃ (d : Nat) (wa : Option Addr) (wc : Nat) (ca : Option Addr) (cc : Nat), d ≤ len + 1 ∧ i = .int .i64 d ∧ sw = .slice wa d wc ∧ sc = .slice ca (chN L Z n Y p d) cc ∧ Hid (Row w ca (chN L Z n Y p d) (chY L Z n Y p d) ∧ Below w.heap.size w wr ∧
      wr.ownsRow w.heap.size 3 1 (.slice wa d wc) d (vals (wayL L Z n Y p d)))) (fun _ _ i _ => len + 1 - (intOf i).toNat)
  case atStart =>
    refine ⟨0, _, _, _, _, Nat.zero_le _, rfl, rfl, rfl, hid ⟨HA.out, (Below.refl _ _).alloc (Nat.le_refl _) _, ?_⟩⟩
    exact World.ownsRow_made w _ (len + 1) (Nat.le_refl _) (by unfold maxLen; omega) (by simp [size_madeCells])
  case round =>
    obtain ⟨d, wa, wc, ca, cc, hd, rfl, rfl, rfl, HW⟩ := hrel
    by_cases hlt : d ≤ len
    · obtain ⟨x, ex, hx⟩ := HND.out d hlt
      have hdz : (d : Int) ≤ len := by omega
      have hxz : (x : Int) < G := by omega
      have hcn : chN L Z n Y p d ≤ 140737488355328 ∧ ∀ i, i < chN L Z n Y p d → 0 ≤ chY L Z n Y p d i ∧ chY L Z n Y p d i < G := by
        cases d with
        | zero => exact ⟨hn, HY.out⟩
        | succ d =>
          obtain ⟨y, ey, hy⟩ := HND.out d (by omega)
          simp only [chN, chY, ey, Int.toNat_natCast]
          exact ⟨HL.out y hy, HZ.out y hy⟩
      have C := leastLeading_any ca (chN L Z n Y p d) cc G fb lb (chY L Z n Y p d) F B d wr hG hcn.1 (HW.out.1.below HW.out.2.1) hcn.2
        (fun y hy => by rw [HW.out.2.1.cell (p := ⟨fb, y, none⟩) (World.block_lt_of_cell? _ _ (HF.out y hy))]; exact HF.out y hy) (fun y hy => by rw [HW.out.2.1.cell (p := ⟨lb, y, none⟩) (World.block_lt_of_cell? _ _ (HB.out y hy))]; exact HB.out y hy)
      rw [← HP.out d, ← nd_ch, ex] at C
      have HC : Hid (Calls Try.prog 29 #[.slice ca (chN L Z n Y p d) cc, .slice (some ⟨fb, 0, none⟩) G G, .slice (some ⟨lb, 0, none⟩) G G, .int .i64 d] wr fun e w' => e = .returned (.int .i64 x) ∧ w' = wr) := C
      have EX : Hid (nd L Z n Y p d = (x : Int)) := ex
      obtain ⟨gb, go, hga, hgc⟩ := HG.out
      obtain rfl := hga (by omega)
      obtain ⟨a4, c4, hg0, hr0⟩ := hgc x hx
      have HG0 : Hid (w.cell? ⟨gb, go + x, none⟩ = some (.slice a4 (L x) c4)) := hg0
      have HR4 : Hid (Row w a4 (L x) (Z x)) := hr0
      have HS : Hid (w.heap.size ≤ wr.heap.size) := HW.out.2.1.size
      clear ex C hcn hg0 hr0 hgc hga
      generalize chN L Z n Y p d = cn at *
      go_wp2_with fail
      refine HC.out.mono ?_
      rintro e w1 ⟨rfl, rfl⟩
      clear HC
      go_wp2_with (at_builtin; refine wpList_append_own _ rfl _ _ 23 rfl w.heap.size 3 i0 (.int .i64 0) 1 8 Try.underlying23 HI.out.1 HI.out.2.1 HI.out.2.2.1 HI.out.2.2.2 rfl (by decide) _ _ _ rfl (HW.out.2.2.alloc _) ⟨w1.heap.size, 0, none⟩ 1 1 [.int .i64 x] rfl rfl (cell_one_new _ _ _) (ints_oneCell .i64 [(x : Int)]) (by unfold maxLen; omega) (by omega) (by have := HS.out; simp; omega) ?_; intro v' w2 hown' hgrow _; obtain ⟨⟨a3, c3, rfl⟩, H3⟩ := leastWay_step HW.out.2.1 HW.out.2.2 hown' hgrow; have hgx : w2.cell? ⟨gb, go + x, none⟩ = some (.slice a4 (L x) c4) := (H3.out.1.cell (p := ⟨gb, go + x, none⟩) (World.block_lt_of_cell? _ _ HG0.out)).trans HG0.out; clear hown' hgrow)
      go_roundw
      case rel =>
        refine ⟨d + 1, a3, c3, a4, c4, by omega, by go_num, rfl, ?_, hid ⟨?_, H3.out.1, ?_⟩⟩
        · simp only [chN, EX.out, Int.toNat_natCast]
        · simp only [chN, chY, EX.out, Int.toNat_natCast]; exact HR4.out
        · rw [wayL_succ, EX.out]; exact H3.out.2
      case measure => simp [intOf]; omega
    · obtain rfl : d = len + 1 := by omega
      have hdz : ¬ ((len : Int) + 1) ≤ len := by omega
      go_wp2
      go_ret
      exact ⟨_, rfl, HW.out.2.1, HW.out.2.2⟩

/-- Two ways to say which nodes one may go to. -/
theorem ed_ego {G : Nat} {L : Nat → Nat} {Z : Nat → Nat → Int} : Ed G L Z = Ego G L Z := by
  funext x y
  unfold Ed Ego
  rw [has_iff]

theorem src_eq {n : Nat} {Y : Nat → Int} : Src n Y = fun x : Nat => ∃ i, i < n ∧ Y i = (x : Int) := by
  funext x
  unfold Src
  rw [has_iff]

/-- What distances and nearest tell, together. -/
theorem near_of {G : Nat} {L : Nat → Nat} {Z : Nat → Nat → Int} {n : Nat} {Y : Nat → Int} {F : Nat → Int} {O : List Int} {T : Nat → Bool} {len : Int} (hD : Dist G (Src n Y) (Ed G L Z) F O) (hZ : ∀ x, x < G → ∀ i, i < L x → 0 ≤ Z x i ∧ Z x i < G) (hY : ∀ i, i < n → 0 ≤ Y i ∧ Y i < G)
    {i : Nat} (hi : i < O.length) (hl : len = F (O.getD i 0).toNat) (hT : T (O.getD i 0).toNat = true) (hj : ∀ j, j < i → T (O.getD j 0).toNat = false) : ∃ m : Nat, len = m ∧ Near G L Z T n Y F m := by
  obtain ⟨x, hx, ex⟩ := hD.inO _ (getD_mem hi)
  rw [ex, Int.toNat_natCast] at hl hT
  have hm : (x : Int) ∈ O := by rw [← ex]; exact getD_mem hi
  have hF := (hD.memF x hx).1 hm
  have hr := hD.rng x hx hF
  refine ⟨len.toNat, by omega, hZ, hY, fun y hy hFy => ⟨(hD.rng y hy hFy).1, (hD.rng y hy hFy).2, ?_⟩, fun k y hy hw => hD.all k y hy ?_, ⟨x, hx, hT, by omega⟩, fun t ht hTt hFt => ?_⟩
  · rw [← src_eq, ← ed_ego]; exact hD.snd y hy hFy
  · rw [src_eq, ed_ego]; exact hw
  · obtain ⟨j, hjl, ej⟩ := List.getElem_of_mem ((hD.memF t ht).2 hFt)
    have ej' : O.getD j 0 = (t : Int) := by rw [List.getD_eq_getElem?_getD, List.getElem?_eq_getElem hjl, ej]; rfl
    by_cases hlt : j < i
    · have := hj j hlt
      rw [ej', Int.toNat_natCast, hTt] at this
      cases this
    · by_cases e : j = i
      · subst e
        rw [ej'] at ex
        have : t = x := by omega
        subst this
        omega
      · have hp := List.pairwise_iff_getElem.1 hD.srt i j hi hjl (by omega)
        have e1 : O[i] = (x : Int) := by rw [List.getD_eq_getElem?_getD, List.getElem?_eq_getElem hi] at ex; exact ex
        rw [e1, ej, Int.toNat_natCast, Int.toNat_natCast] at hp
        omega

/-- Which nodes stand on a shortest way. -/
def onWay (G : Nat) (L : Nat → Nat) (Z : Nat → Nat → Int) (T : Nat → Bool) (F : Nat → Int) (len x : Nat) : Bool := decide (F x ≤ len ∧ lev L Z T G x = (len : Int) + 1 - F x)

theorem Near.leads {G : Nat} {L : Nat → Nat} {Z : Nat → Nat → Int} {n : Nat} {Y : Nat → Int} {F : Nat → Int} {O : List Int} {T : Nat → Bool} {len : Nat} (h : Near G L Z T n Y F len) (hmem : ∀ x, x < G → ((x : Int) ∈ O ↔ F x ≠ -1)) : Leads G L Z T F O len (onWay G L Z T F len) := by
  have hl := h.lenG
  refine ⟨fun x hx hO e => ?_, fun x hx hO hlt => ?_, fun x hx hO hlt => ?_⟩
  · have hF := (hmem x hx).1 hO
    have := h.on hx hF (m := 0) (by omega)
    rw [Bool.eq_iff_iff]
    unfold onWay
    rw [decide_eq_true_eq]
    constructor
    · rintro ⟨_, h2⟩
      exact this.1 (by rw [h2]; omega)
    · intro hT
      exact ⟨by omega, by rw [this.2 hT]; omega⟩
  · have hF := (hmem x hx).1 hO
    have h0 := (h.snd x hx hF).1
    obtain ⟨m, hm⟩ : ∃ m : Nat, F x + (m + 1 : Nat) = len := ⟨((len : Int) - F x - 1).toNat, by omega⟩
    have hon := h.on hx hF hm
    have hstep : ∀ i, i < L x → (Z x i).toNat < G ∧ F (Z x i).toNat ≠ -1 ∧ F (Z x i).toNat ≤ F x + 1 ∧ Ego G L Z x (Z x i).toNat := fun i hi => by
      have hz := h.hZ x hx i hi
      have he : Ego G L Z x (Z x i).toNat := ⟨hx, i, hi, by omega⟩
      obtain ⟨a, b, c⟩ := h.step hx hF he
      exact ⟨a, b, c, he⟩
    rw [Bool.eq_iff_iff, bne_iff_ne]
    constructor
    · intro hb
      obtain ⟨i, hi, _, hp⟩ := best_some (L x) hb
      obtain ⟨hy, hFy, _, he⟩ := hstep i hi
      simp only [Bool.and_eq_true, decide_eq_true_eq, onWay] at hp
      unfold onWay
      rw [decide_eq_true_eq]
      have hby := (h.on hy hFy (m := m) (by omega)).1 (by rw [hp.1.2]; omega)
      exact ⟨by omega, by rw [hon.2 ⟨_, he, hby⟩]; omega⟩
    · intro hx1 hb
      unfold onWay at hx1
      rw [decide_eq_true_eq] at hx1
      obtain ⟨y, hxy, hby⟩ := hon.1 (by rw [hx1.2]; omega)
      obtain ⟨_, i, hi, ei⟩ := hxy
      have hyy : (Z x i).toNat = y := by omega
      obtain ⟨hy, hFy, hFy2, _⟩ := hstep i hi
      rw [hyy] at hy hFy hFy2
      have hfar := h.far hy hFy hby
      have hly := (h.on hy hFy (m := m) (by omega)).2 hby
      have := best_none (L x) (fun i hi => (h.hZ x hx i hi).1) hb i hi
      rw [hyy] at this
      simp only [onWay] at this
      have hA : F y ≤ len ∧ lev L Z T G y = (len : Int) + 1 - F y := ⟨by omega, by rw [hly]; omega⟩
      have hB : F y = F x + 1 := by omega
      rw [decide_eq_true hA, decide_eq_true hB] at this
      cases this
  · unfold onWay
    rw [decide_eq_false_iff_not]
    omega

def errW (G : Nat) (L : Nat → Nat) (Z : Nat → Nat → Int) (n : Nat) (Y : Nat → Int) (tn : Nat) : Int := if errF G L Z n Y = 0 then (if tn = G then 0 else 1) else errF G L Z n Y

set_option maxHeartbeats 400000 in
theorem way_bad (ga : Option Addr) (G gc : Nat) (L : Nat → Nat) (Z : Nat → Nat → Int) (a : Option Addr) (n c : Nat) (Y : Nat → Int) (ta : Option Addr) (tn tc : Nat) (w : World) (hL : ∀ r, r < G → L r ≤ 140737488355328) (hn : n ≤ 140737488355328) (h : Gr w ga G L Z) (hrow : Row w a n Y)
    (E : Int) (hE : errW G L Z n Y tn = E) (h0 : E ≠ 0) :
    Calls Try.prog 5 #[.slice ga G gc, .slice a n c, .slice ta tn tc] w fun e w' => e = .returned (.tuple #[.slice none 0 0, .bool false, .int .i64 E]) ∧ w' = w := by
  have C : Hid (Calls Try.prog 17 #[.slice ga G gc, .slice a n c] w fun e w' => e = .returned (.int .i64 (errF G L Z n Y)) ∧ w' = w) := checkFrom_any ga G gc L Z a n c Y w hL hn h hrow
  unfold errW at hE
  by_cases hF : errF G L Z n Y = 0
  · rw [hF] at C
    rw [if_pos hF] at hE
    have htn : tn ≠ G := fun e => h0 (by rw [← hE, if_pos e])
    obtain rfl : E = 1 := by rw [← hE, if_neg htn]
    have hz : ((tn : Int) != G) = true := by simp; omega
    clear hE h0 hF htn h hL hrow
    go_enter Try.func5, Try.ntmps5
    go_wp2_with fail
    refine C.out.mono ?_
    rintro e w' ⟨rfl, rfl⟩
    go_wp2
    go_ret3
    exact ⟨rfl, rfl⟩
  · rw [if_neg hF] at hE
    rw [hE] at C
    have hz : (E != 0) = true := by rw [bne_iff_ne]; exact h0
    clear hE h0 hF h hL hrow
    go_enter Try.func5, Try.ntmps5
    go_wp2_with fail
    refine C.out.mono ?_
    rintro e w' ⟨rfl, rfl⟩
    go_wp2
    go_ret3
    exact ⟨rfl, rfl⟩

theorem errW_zero {G : Nat} {L : Nat → Nat} {Z : Nat → Nat → Int} {n : Nat} {Y : Nat → Int} {tn : Nat} (h : errW G L Z n Y tn = 0) : errF G L Z n Y = 0 ∧ tn = G := by
  unfold errW at h
  by_cases hF : errF G L Z n Y = 0
  · rw [if_pos hF] at h
    by_cases e : tn = G
    · exact ⟨hF, e⟩
    · rw [if_neg e] at h; cases h
  · rw [if_neg hF] at h
    exact absurd h hF

/-- What Way answers. -/
def WayIs (G : Nat) (L : Nat → Nat) (Z : Nat → Nat → Int) (T : Nat → Bool) (n : Nat) (Y : Nat → Int) (w w' : World) (v : Value) (is : Bool) : Prop :=
  (is = false ∧ v = .slice none 0 0 ∧ ∀ x, x < G → T x = true → ¬ Comes G L Z n Y x) ∨
  (is = true ∧ ∃ (F : Nat → Int) (len : Nat), Near G L Z T n Y F len ∧ w'.ownsRow w.heap.size 3 1 v (len + 1) (vals (wayL L Z n Y (byLev G L Z T len) (len + 1))))

set_option maxHeartbeats 1000000 in
theorem way_ok (ga : Option Addr) (G gc : Nat) (L : Nat → Nat) (Z : Nat → Nat → Int) (a : Option Addr) (n c : Nat) (Y : Nat → Int) (ta : Option Addr) (tc : Nat) (T : Nat → Bool) (w : World) (hL : ∀ r, r < G → L r ≤ 140737488355328) (hn : n ≤ 140737488355328) (h : Gr w ga G L Z) (hrow : Row w a n Y)
    (ht : Rowb w ta G T) (h0 : errF G L Z n Y = 0) :
    Calls Try.prog 5 #[.slice ga G gc, .slice a n c, .slice ta G tc] w fun e w' => ∃ v is, e = .returned (.tuple #[v, .bool is, .int .i64 0]) ∧ Below w.heap.size w w' ∧ WayIs G L Z T n Y w w' v is := by
  have C33 : Hid (Calls Try.prog 17 #[.slice ga G gc, .slice a n c] w fun e w' => e = .returned (.int .i64 0) ∧ w' = w) := by
    have := checkFrom_any ga G gc L Z a n c Y w hL hn h hrow
    rwa [h0] at this
  obtain ⟨hg, hin⟩ := errF_zero h0
  obtain ⟨hG, hZ⟩ := errG_zero hg
  have C34 : Hid (Calls Try.prog 18 #[.slice ga G gc, .slice a n c] w fun e w' => ∃ F O v, e = .returned (.tuple #[.slice (some ⟨w.heap.size + 1 + 1, 0, none⟩) G G, v]) ∧ Dist G (Src n Y) (Ed G L Z) F O ∧ Bf w w' G F O v) := dist_any ga G gc L Z a n c Y w hL hn h hg hrow hin
  have HL : Hid (∀ r, r < G → L r ≤ 140737488355328) := hL
  have HZ : Hid (∀ x, x < G → ∀ i, i < L x → 0 ≤ Z x i ∧ Z x i < G) := hZ
  have HY : Hid (∀ i, i < n → 0 ≤ Y i ∧ Y i < G) := hin
  have HG : Hid (Gr w ga G L Z) := h
  have HA : Hid (Row w a n Y) := hrow
  have HT : Hid (Rowb w ta G T) := ht
  clear h hrow hL hg hin h0 hZ ht
  go_enter Try.func5, Try.ntmps5
  go_wp2_with fail
  refine C33.out.mono ?_
  rintro e w' ⟨rfl, rfl⟩
  go_wp2_with fail
  refine C34.out.mono ?_
  rintro e w1 ⟨F, O, v, rfl, hD, hB⟩
  have HD : Hid (Dist G (Src n Y) (Ed G L Z) F O) := hD
  have HB : Hid (Bf w' w1 G F O v) := hB
  obtain ⟨a2, c2, hv, hrow2⟩ := owns_row hB.own
  subst hv
  have HR2 : Hid (Row w1 a2 O.length (fun i => O.getD i 0)) := hrow2
  have hol := hD.len
  clear hD hB C33 C34 hrow2
  go_wp2_with fail
  refine (nearest_any a2 O.length c2 G (w'.heap.size + 1 + 1) ta tc (fun i => O.getD i 0) F T _ hG (by omega) HR2.out (fun i hi => by obtain ⟨x, hx, e⟩ := HD.out.inO _ (getD_mem hi); rw [e]; omega) (fun x hx => HB.out.far.cell hx) (HT.out.below HB.out.below)).mono ?_
  rintro e w2 ⟨⟨r, rfl, hr⟩, rfl⟩
  rcases hr with ⟨rfl, hno⟩ | ⟨i, hi, hri, hTi, hj⟩
  · have HN : Hid (∀ x, x < G → T x = true → ¬ Comes G L Z n Y x) := fun x hx hT ⟨k, hk⟩ => by
      have hF := (HD.out.all k x hx hk).1
      obtain ⟨j, hj, ej⟩ := List.getElem_of_mem ((HD.out.memF x hx).2 hF)
      have ej' : O.getD j 0 = (x : Int) := by rw [List.getD_eq_getElem?_getD, List.getElem?_eq_getElem hj, ej]; rfl
      have := hno j hj
      simp only [ej', Int.toNat_natCast] at this
      rw [hT] at this
      cases this
    clear hno
    go_wp2
    go_ret3
    exact ⟨_, _, rfl, HB.out.below, Or.inl ⟨rfl, rfl, HN.out⟩⟩
  · obtain ⟨len, hlen, hN⟩ := near_of HD.out HZ.out HY.out hi hri hTi hj
    subst hlen
    have HN : Hid (Near G L Z T n Y F len) := hN
    have hlG := hN.lenG
    have hz : ((len : Int) == -1) = false := by rw [beq_eq_false_iff_ne]; omega
    clear hri hTi hj hN hi
    go_wp2_with fail
    refine (leading_any ga G gc L Z a2 c2 (w'.heap.size + 1 + 1) ta tc O F T len (onWay G L Z T F len) _ hG HL.out HZ.out (HG.out.below HB.out.below) HR2.out hol HD.out.inO HD.out.memF HD.out.rng HD.out.srt (fun x hx => HB.out.far.cell hx) (HT.out.below HB.out.below) (HN.out.leads HD.out.memF)).mono ?_
    rintro e w3 ⟨rfl, hbel3, hrow3⟩
    have HW3 : Hid (Below w2.heap.size w2 w3 ∧ w3.rowIs w2.heap.size 4 G (fun x => .bool (ldj O (onWay G L Z T F len) 0 x))) := ⟨hbel3, hrow3⟩
    have HW : Hid (Below w'.heap.size w' w3) := HB.out.below.trans (hbel3.mono HB.out.below.size)
    clear hbel3 hrow3
    have HP : Hid (∀ d, d ≤ len → nd L Z n Y (fun d x => ldj O (onWay G L Z T F len) 0 x && decide (F x = (d : Nat))) d = nd L Z n Y (byLev G L Z T len) d) := by
      have e : (fun d x => ldj O (onWay G L Z T F len) 0 x && decide (F x = (d : Nat)) : Nat → Nat → Bool) = fun (d x : Nat) => (decide ((x : Int) ∈ O) && byFar G L Z T F len d x) := by
        funext d x
        simp [ldj, byFar, onWay, Bool.and_assoc]
      rw [e]
      have same : ∀ d, d ≤ len → nd L Z n Y (fun (d x : Nat) => (decide ((x : Int) ∈ O) && byFar G L Z T F len d x)) d = nd L Z n Y (byFar G L Z T F len) d := by
        intro d
        induction d with
        | zero =>
          intro _
          refine best_congr n (fun i hi => ?_)
          have hy := HY.out i hi
          have hF := (HN.out.all 0 (Y i).toNat (by omega) ⟨i, hi, by omega⟩).1
          show (decide (((Y i).toNat : Int) ∈ O) && byFar G L Z T F len 0 (Y i).toNat) = byFar G L Z T F len 0 (Y i).toNat
          rw [decide_eq_true ((HD.out.memF _ (by omega)).2 hF), Bool.true_and]
        | succ d ih =>
          intro hd
          obtain ⟨e1, x, ex, hx, hFx, _⟩ := HN.out.nodes d (by omega)
          show best _ (Z (nd L Z n Y _ d).toNat) (L (nd L Z n Y _ d).toNat) = best _ (Z (nd L Z n Y _ d).toNat) (L (nd L Z n Y _ d).toNat)
          rw [ih (by omega), e1, ex, Int.toNat_natCast]
          refine best_congr (L x) (fun i hi => ?_)
          have hz := HZ.out x hx i hi
          have hF := (HN.out.step hx (by omega) ⟨hx, i, hi, show Z x i = ((Z x i).toNat : Int) by omega⟩).2.1
          show (decide (((Z x i).toNat : Int) ∈ O) && byFar G L Z T F len (d + 1) (Z x i).toNat) = byFar G L Z T F len (d + 1) (Z x i).toNat
          rw [decide_eq_true ((HD.out.memF _ (by omega)).2 hF), Bool.true_and]
      exact hid (fun d hd => (same d hd).trans (HN.out.nodes d hd).1)
    go_wp2_with fail
    refine (leastWay_any ga G gc L Z a n c Y (w'.heap.size + 1 + 1) w2.heap.size F (ldj O (onWay G L Z T F len) 0) len _ hG hlG HL.out hn HZ.out HY.out (HG.out.below HW.out) (HA.out.below HW.out)
      (fun x hx => by rw [HW3.out.1.cell (p := ⟨w'.heap.size + 1 + 1, x, none⟩) HB.out.far.lt]; exact HB.out.far.cell hx) (fun x hx => HW3.out.2.cell hx)
      (fun d hd => by obtain ⟨_, x, ex, hx, _⟩ := HN.out.nodes d hd; exact ⟨x, by rw [HP.out d hd]; exact ex, hx⟩)).mono ?_
    rintro e w4 ⟨v4, rfl, hbel4, hown4⟩
    have HW4 : Hid (Below w'.heap.size w' w4 ∧ w4.ownsRow w'.heap.size 3 1 v4 (len + 1) (vals (wayL L Z n Y (byLev G L Z T len) (len + 1)))) := by
      refine ⟨HW.out.trans (hbel4.mono HW.out.size), ?_⟩
      have e : wayL L Z n Y (fun d x => ldj O (onWay G L Z T F len) 0 x && decide (F x = (d : Nat))) (len + 1) = wayL L Z n Y (byLev G L Z T len) (len + 1) := by
        unfold wayL
        exact List.map_congr_left (fun d hd => HP.out d (by have := List.mem_range.1 hd; omega))
      rw [← e]
      refine ⟨hown4.1, hown4.2.imp id ?_⟩
      rintro ⟨g, cap, cur, e1, hb, rest⟩
      exact ⟨g, cap, cur, e1, Nat.le_trans HW.out.size hb, rest⟩
    clear hbel4 hown4
    go_wp2
    go_ret3
    exact ⟨_, _, rfl, HW4.out.1, Or.inr ⟨rfl, F, len, HN.out, HW4.out.2⟩⟩

end Go.Proofs.Ytjfanphbjngfeab
