/- distances, by its contract. checkFrom and Reach, by their contracts. Small things: literals in memory, slices.Equal at bools, slices.Clone, an append of nothing. -/
import Derived.RegionTactic
import Derived.Test.YthpbgfodejoecaaDistJ
namespace Go.Proofs.Ythpbgfodejoecaa
open Go.RowKit

theorem bf_start (w : World) (G : Nat) :
    Bf w (((w.alloc (.cells #[.slice (some ⟨w.heap.size + 1 + 1, 0, none⟩) G G] 26)).alloc (.cells #[.slice none 0 0] 26)).alloc (.cells (madeCells #[.int .i64 0] G) 3)) G (fun _ => 0) [] (.slice none 0 0) := by
  have one : ∀ (v : Value) (i : Nat), i < (#[v] : Array Value).size → (#[v] : Array Value)[i]? = some v := fun v i hi => by
    have : i = 0 := by simpa using hi
    subst this
    rfl
  have h1 := World.rowIs_alloc w #[.slice (some ⟨w.heap.size + 1 + 1, 0, none⟩) G G] 26 (fun _ => .slice (some ⟨w.heap.size + 1 + 1, 0, none⟩) G G) (one _)
  have h2 := World.rowIs_alloc (w.alloc (.cells #[.slice (some ⟨w.heap.size + 1 + 1, 0, none⟩) G G] 26)) #[.slice none 0 0] 26 (fun _ => .slice none 0 0) (one _)
  have h3 := World.rowIs_made ((w.alloc (.cells #[.slice (some ⟨w.heap.size + 1 + 1, 0, none⟩) G G] 26)).alloc (.cells #[.slice none 0 0] 26)) (.int .i64 0) G 3
  refine ⟨(((Below.refl _ _).alloc (Nat.le_refl _) _).alloc (by simp) _).alloc (by simp; omega) _, (h1.alloc _).alloc _, ?_, ?_, World.ownsRow_nil _ _ _ _⟩
  · have := h2.alloc (.cells (madeCells #[.int .i64 0] G) 3)
    simpa using this
  · simpa using h3

theorem Bf.congrF {w wr : World} {G : Nat} {F F' : Nat → Int} {O : List Int} {v : Value} (h : Bf w wr G F O v) (e : ∀ i, i < G → F i = F' i) : Bf w wr G F' O v :=
  ⟨h.below, h.farv, h.ordv, h.far.congr (fun i hi => by rw [e i hi]), h.own⟩

theorem Bf.drewN {w wr : World} {G : Nat} {F : Nat → Int} {O : List Int} {v : Value} (h : Bf w wr G F O v) (q : Nat) : Bf w (wr.drewN q) G F O v :=
  ⟨h.below.trans ⟨rfl, rfl, rfl, Nat.le_refl _, fun _ _ => rfl⟩, h.farv, h.ordv, h.far, h.own⟩

/-- 'return': both variables are stored into themselves. -/
theorem Bf.again {w wr : World} {G : Nat} {F : Nat → Int} {O : List Int} {v : Value} (h : Bf w wr G F O v) :
    Bf w ((wr.setCell ⟨w.heap.size, 0, none⟩ (.slice (some ⟨w.heap.size + 1 + 1, 0, none⟩) G G)).setCell ⟨w.heap.size + 1, 0, none⟩ v).drew G F O v := by
  refine ⟨((h.below.setCell (Nat.le_refl _) _).setCell (by show w.heap.size ≤ w.heap.size + 1; omega) _).drew, (((h.farv.set 0 _).congr (fun i hi => ?_)).setOther (by show w.heap.size ≠ w.heap.size + 1; omega) _).drew,
    (((h.ordv.setOther (by show w.heap.size + 1 ≠ w.heap.size; omega) _).set 0 _).congr (fun i hi => ?_)).drew, ((h.far.setOther (by show w.heap.size + 1 + 1 ≠ w.heap.size; omega) _).setOther (by show w.heap.size + 1 + 1 ≠ w.heap.size + 1; omega) _).drew,
    ownsRow_setCell_below (ownsRow_setCell_below h.own (by show w.heap.size < w.heap.size + 1 + 1 + 1; omega) _) (by show w.heap.size + 1 < w.heap.size + 1 + 1 + 1; omega) _⟩
  · have : i = 0 := by omega
    simp [this]
  · have : i = 0 := by omega
    simp [this]

/-- One may go from x to y. -/
def Ed (G : Nat) (L : Nat → Nat) (Z : Nat → Nat → Int) (x y : Nat) : Prop := x < G ∧ has (L x) (Z x) y = true
/-- x stands in the list. -/
def Src (n : Nat) (Z : Nat → Int) (x : Nat) : Prop := has n Z x = true

theorem has_iff {n : Nat} {Z : Nat → Int} {x : Int} : has n Z x = true ↔ ∃ i, i < n ∧ Z i = x := by unfold has; rw [decide_eq_true_eq]

set_option maxHeartbeats 1000000 in
theorem dist_any (ga : Option Addr) (G gc : Nat) (L : Nat → Nat) (Z : Nat → Nat → Int) (a : Option Addr) (n c : Nat) (Y : Nat → Int) (w : World) (hL : ∀ r, r < G → L r ≤ 140737488355328) (hn : n ≤ 140737488355328) (h : Gr w ga G L Z)
    (h0 : errG G L Z = 0) (hrow : Row w a n Y) (hin : ∀ i, i < n → 0 ≤ Y i ∧ Y i < G) :
    Calls Try.prog 65 #[.slice ga G gc, .slice a n c] w fun e w' => ∃ F O v, e = .returned (.tuple #[.slice (some ⟨w.heap.size + 1 + 1, 0, none⟩) G G, v]) ∧ Dist G (Src n Y) (Ed G L Z) F O ∧ Bf w w' G F O v := by
  obtain ⟨hG, hall⟩ := errG_zero h0
  have HA : Hid (∀ r, r < G → ∀ i, i < L r → 0 ≤ Z r i ∧ Z r i < G) := hall
  have HL : Hid (∀ r, r < G → L r ≤ 140737488355328) := hL
  have HG : Hid (Gr w ga G L Z) := h
  have HR : Hid (Row w a n Y) := hrow
  have HN : Hid (∀ i, i < n → 0 ≤ Y i ∧ Y i < G) := hin
  clear hL h h0 hrow hin hall
  have hmk := run_make_row' (P := Try.prog) 26 3 (.int .i64 0) 8 Try.underlying26 Try.info3 rfl .i64 .i64 G (by omega) (by omega)
  go_enter Try.func65, Try.ntmps65
  go_wp2
  clear hmk
  go_loopw [14] (fun i wr => ∃ k : Nat, k ≤ G ∧ i = .int .i64 k ∧ Bf w wr G (fun x => if x < k then -1 else 0) [] (.slice none 0 0)) (fun i _ => G - (intOf i).toNat)
  case atStart => exact ⟨0, Nat.zero_le _, rfl, bf_start w G⟩
  case round =>
    obtain ⟨k, hk, rfl, hB⟩ := hrel
    have HB : Hid (Bf w wr G (fun x => if x < k then -1 else 0) [] (.slice none 0 0)) := hB
    have hfv := hB.farv.cell (i := 0) (by omega)
    clear hB
    by_cases hlt : k < G
    · have hft := HB.out.far.cell hlt
      have hff := HB.out.far.frozen k
      go_wp2
      go_roundw
      case rel =>
        refine ⟨k + 1, by omega, by go_num, (HB.out.setFar k (-1)).congrF (fun i hi => ?_)⟩
        show upd (fun x => if x < k then -1 else 0) k (-1) i = if i < k + 1 then -1 else 0
        by_cases e : i = k
        · subst e; rw [upd_at, if_pos (by omega)]
        · rw [upd_ne _ _ _ _ e]
          show (if i < k then (-1 : Int) else 0) = if i < k + 1 then -1 else 0
          by_cases e2 : i < k
          · rw [if_pos e2, if_pos (by omega)]
          · rw [if_neg e2, if_neg (by omega)]
      case measure => simp [intOf]; omega
    · have hB2 := HB.out.congrF (F' := fun _ => -1) (fun i hi => by rw [if_pos (by omega)])
      have HB2 : Hid (Bf w wr G (fun _ => -1) [] (.slice none 0 0)) := hB2
      clear hB2 HB hfv
      go_wp2_with fail
      have hwk : ∀ i, i < n → 0 ≤ Y i ∧ Y i < G ∧ Src n Y (Y i).toNat := fun i hi => by
        have := HN.out i hi
        refine ⟨this.1, this.2, has_iff.2 ⟨i, hi, by omega⟩⟩
      have hlen : ∀ k, k ≤ n → ∀ F O, (F, O) = meetTo 0 Y k (fun _ => -1, []) → O.length ≤ G := fun k hk F O e =>
        (meetTo_all (inv_start G (Src n Y) (Ed G L Z)) (Int.le_refl _) (Int.le_refl _) Y k (fun i hi => hwk i (by omega)) F O e).1.len
      refine (meet_any w wr G (fun _ => -1) [] (.slice none 0 0) a n c Y 0 hG hn HR.out HN.out hlen HB2.out).mono ?_
      rintro e w1 ⟨rfl, F, O, v, hs, hB⟩
      have hH : Head G (Src n Y) (Ed G L Z) 0 F O := Head.start hwk (fun x hx _ => by obtain ⟨i, hi, e⟩ := has_iff.1 hx; exact ⟨i, hi, by omega⟩) hs
      have HX : Hid (∃ F O v, Head G (Src n Y) (Ed G L Z) 0 F O ∧ Bf w w1 G F O v) := ⟨F, O, v, hH, hB⟩
      clear hs hB hH hlen hwk HB2
      go_wp2
      go_loopw [8] (fun i wr => ∃ k : Nat, k ≤ G ∧ i = .int .i64 k ∧ Hid (∃ F O v, Head G (Src n Y) (Ed G L Z) k F O ∧ Bf w wr G F O v)) (fun i _ => G - (intOf i).toNat)
      case atStart => exact ⟨0, Nat.zero_le _, rfl, HX⟩
      case round =>
        obtain ⟨k, hk, rfl, hX⟩ := hrel
        clear HX
        obtain ⟨F, O, v, hH, hB⟩ := hX.out
        clear hX
        have HH : Hid (Head G (Src n Y) (Ed G L Z) k F O) := hH
        have HB : Hid (Bf w wr G F O v) := hB
        have hol := hH.len
        obtain ⟨a2, c2, hv, hrow2⟩ := owns_row hB.own
        have hov := hB.ordv.cell (i := 0) (by omega)
        rw [hv] at hov
        have HV : Hid (v = .slice a2 O.length c2) := hv
        have HR2 : Hid (Row wr a2 O.length (fun i => O.getD i 0)) := hrow2
        clear hH hB hv hrow2
        generalize hmm : O.length = m at *
        have HM : Hid (O.length = m) := hmm
        clear hmm
        by_cases hlt : k < m
        · have hkm : (k : Int) < m := by omega
          obtain ⟨x, hx, ex, x0, xi, hI, hw⟩ := HH.out.node (by rw [HM.out]; exact hlt)
          have EX : Hid (O.getD k 0 = (x : Int)) := ex
          have HIv : Hid (Inv G (Src n Y) (Ed G L Z) (F x + 1) F O ∧ Wk (Src n Y) (Ed G L Z) (F x).toNat x) := ⟨hI, hw⟩
          clear ex hI hw
          obtain ⟨b2, o2, ha2, hc2⟩ := HR2.out
          obtain rfl := ha2 (by omega)
          have hxc : wr.cell? ⟨b2, o2 + k, none⟩ = some (.int .i64 x) := by rw [hc2 k hlt]; exact congrArg (fun z => some (Value.int .i64 z)) EX.out
          clear hc2 ha2
          have hxz : (x : Int) < G := by omega
          have hfv := HB.out.farv.cell (i := 0) (by omega)
          have hfx := HB.out.far.cell hx
          obtain ⟨b3, o3, ha3, hc3⟩ := HG.out
          obtain rfl := ha3 (by omega)
          obtain ⟨a4, c4, hg0, hr0⟩ := hc3 x hx
          have hgx : wr.cell? ⟨b3, o3 + x, none⟩ = some (.slice a4 (L x) c4) := by
            rw [HB.out.below.cell (p := ⟨b3, o3 + x, none⟩) (World.block_lt_of_cell? _ _ hg0)]; exact hg0
          have HR4 : Hid (Row w a4 (L x) (Z x)) := hr0
          clear hg0 hr0 hc3 ha3
          have hLx := HL.out x hx
          have hzx : ∀ i, i < L x → 0 ≤ Z x i ∧ Z x i < G := HA.out x hx
          have hwk : ∀ i, i < L x → 0 ≤ Z x i ∧ Z x i < G ∧ Wk (Src n Y) (Ed G L Z) (F x + 1).toNat (Z x i).toNat := fun i hi => by
            have := hzx i hi
            refine ⟨this.1, this.2, ?_⟩
            have e : (F x + 1).toNat = (F x).toNat + 1 := by omega
            rw [e]
            exact ⟨x, HIv.out.2, hx, has_iff.2 ⟨i, hi, by omega⟩⟩
          have hlen : ∀ k, k ≤ L x → ∀ F' O', (F', O') = meetTo (F x + 1) (Z x) k (F, O) → O'.length ≤ G := fun k hk F' O' e =>
            (meetTo_all HIv.out.1 (by omega) (by have := HM.out; omega) (Z x) k (fun i hi => hwk i (by omega)) F' O' e).1.len
          have HC : Hid (∀ q, Calls Try.prog 94 #[.slice a4 (L x) c4, .int .i64 (F x + 1), .pointer (some ⟨w.heap.size, 0, none⟩), .pointer (some ⟨w.heap.size + 1, 0, none⟩)] (wr.drewN q) fun e w' => e = .returned (.tuple #[]) ∧ ∃ F' O' v', (F', O') = meetTo (F x + 1) (Z x) (L x) (F, O) ∧ Bf w w' G F' O' v') :=
            fun q => meet_any w (wr.drewN q) G F O v a4 (L x) c4 (Z x) (F x + 1) hG hLx HR4.out hzx hlen (HB.out.drewN q)
          clear hwk hlen hzx
          go_wp2_with fail
          refine wp_region_last 16 _ (by kernel_rfl) (by kernel_rfl) rfl rfl ?_
          simp only [List.take]
          repeat (go_big_quiet_step (fail))
          refine wpQuiet_nil ?_
          intro nq
          go_wp2_with fail
          refine (HC.out nq).mono ?_
          rintro e w2 ⟨rfl, F', O', v', hs, hB⟩
          have HN2 : Hid (∃ F O v, Head G (Src n Y) (Ed G L Z) (k + 1) F O ∧ Bf w w2 G F O v) :=
            ⟨F', O', v', HH.out.next (by rw [HM.out]; exact hlt) hx EX.out (fun i hi => by
              have := HA.out x hx i hi
              exact ⟨this.1, this.2, hx, has_iff.2 ⟨i, hi, by omega⟩⟩) (fun y hy _ => by
              obtain ⟨i, hi, e⟩ := has_iff.1 hy.2
              exact ⟨i, hi, by omega⟩) hs, hB⟩
          clear hs hB HC HIv HH HB HV HR2 HR4 hov hxc hgx hfv hfx
          go_wp2
          go_roundw
          case rel => exact ⟨k + 1, by omega, by go_num, HN2⟩
          case measure => simp [intOf]; omega
        · have hfv := HB.out.farv.cell (i := 0) (by omega)
          have hff := HB.out.farv.frozen 0
          have hof := HB.out.ordv.frozen 0
          go_wp2_with fail
          go_region
          have hB3 := HB.out.again
          rw [HV.out] at hB3
          have HB3 : Hid (Bf w ((wr.setCell ⟨w.heap.size, 0, none⟩ (.slice (some ⟨w.heap.size + 1 + 1, 0, none⟩) G G)).setCell ⟨w.heap.size + 1, 0, none⟩ (.slice a2 m c2)).drew G F O (.slice a2 m c2)) := hB3
          have hq1 : ((wr.setCell ⟨w.heap.size, 0, none⟩ (.slice (some ⟨w.heap.size + 1 + 1, 0, none⟩) G G)).setCell ⟨w.heap.size + 1, 0, none⟩ (.slice a2 m c2)).cell? ⟨w.heap.size, 0, none⟩ = some (.slice (some ⟨w.heap.size + 1 + 1, 0, none⟩) G G) := hB3.farv.cell (i := 0) (by omega)
          have hq2 : ((wr.setCell ⟨w.heap.size, 0, none⟩ (.slice (some ⟨w.heap.size + 1 + 1, 0, none⟩) G G)).setCell ⟨w.heap.size + 1, 0, none⟩ (.slice a2 m c2)).cell? ⟨w.heap.size + 1, 0, none⟩ = some (.slice a2 m c2) := hB3.ordv.cell (i := 0) (by omega)
          clear hB3
          go_wp2
          refine bodyPost_ret (v := .tuple #[.slice (some ⟨w.heap.size + 1 + 1, 0, none⟩) G G, .slice a2 m c2]) ?_ rfl ⟨F, O, _, rfl, HH.out.dist (by rw [HM.out]; exact hlt) (fun x y h => h.1), HB3.out⟩
          simp [results, Try.results65, go_sem, hq1, hq2]

end Go.Proofs.Ythpbgfodejoecaa

namespace Go.Proofs.Ythpbgfodejoecaa
open Go.RowKit

theorem Try.info4 : (Try.prog.info? 4).map (fun i => (i.zero, i.size, i.bytes)) = some (some (.bool false), 1, 1) := by kernel_rfl

def errF (G : Nat) (L : Nat → Nat) (Z : Nat → Nat → Int) (n : Nat) (Y : Nat → Int) : Int := if errG G L Z = 0 then (if allIn n Y G = true then 0 else 1) else errG G L Z

theorem errF_zero {G : Nat} {L : Nat → Nat} {Z : Nat → Nat → Int} {n : Nat} {Y : Nat → Int} (h : errF G L Z n Y = 0) : errG G L Z = 0 ∧ ∀ i, i < n → 0 ≤ Y i ∧ Y i < G := by
  unfold errF at h
  by_cases h1 : errG G L Z = 0
  · rw [if_pos h1] at h
    by_cases h2 : allIn n Y G = true
    · exact ⟨h1, allIn_all h2⟩
    · rw [if_neg h2] at h; cases h
  · rw [if_neg h1] at h
    exact absurd h h1

set_option maxHeartbeats 400000 in
theorem checkFrom_any (ga : Option Addr) (G gc : Nat) (L : Nat → Nat) (Z : Nat → Nat → Int) (a : Option Addr) (n c : Nat) (Y : Nat → Int) (w : World) (hL : ∀ r, r < G → L r ≤ 140737488355328) (hn : n ≤ 140737488355328) (h : Gr w ga G L Z) (hrow : Row w a n Y) :
    Calls Try.prog 64 #[.slice ga G gc, .slice a n c] w fun e w' => e = .returned (.int .i64 (errF G L Z n Y)) ∧ w' = w := by
  have C11 : Hid (Calls Try.prog 62 #[.slice ga G gc] w fun e w' => e = .returned (.int .i64 (errG G L Z)) ∧ w' = w) := check_any ga G gc L Z w hL h
  have C28 : Hid (Calls Try.prog 93 #[.slice ga G gc, .slice a n c] w fun e w' => e = .returned (.bool (allIn n Y G)) ∧ w' = w) := areNodes_any ga G gc a n c Y w hn hrow
  have HF : Hid (errF G L Z n Y = if errG G L Z = 0 then (if allIn n Y G = true then 0 else 1) else errG G L Z) := rfl
  generalize errF G L Z n Y = F at *
  generalize errG G L Z = E at *
  clear h hrow hL
  by_cases h0 : E = 0
  · subst h0
    cases hb : allIn n Y G
    · rw [hb] at C28
      have HF' : Hid (F = 1) := by have := HF.out; rw [hb] at this; exact this
      clear HF hb
      go_enter Try.func64, Try.ntmps64
      go_wp2_with fail
      refine C11.out.mono ?_
      rintro e w' ⟨rfl, rfl⟩
      go_wp2_with fail
      refine C28.out.mono ?_
      rintro e w' ⟨rfl, rfl⟩
      go_wp2
      go_ret
      exact ⟨ret_int HF'.out.symm, rfl⟩
    · rw [hb] at C28
      have HF' : Hid (F = 0) := by have := HF.out; rw [hb] at this; exact this
      clear HF hb
      go_enter Try.func64, Try.ntmps64
      go_wp2_with fail
      refine C11.out.mono ?_
      rintro e w' ⟨rfl, rfl⟩
      go_wp2_with fail
      refine C28.out.mono ?_
      rintro e w' ⟨rfl, rfl⟩
      go_wp2
      go_ret
      exact ⟨ret_int HF'.out.symm, rfl⟩
  · have HF' : Hid (F = E) := by have := HF.out; rw [if_neg h0] at this; exact this
    have hz : (E != 0) = true := by rw [bne_iff_ne]; exact h0
    clear HF h0
    go_enter Try.func64, Try.ntmps64
    go_wp2_with fail
    refine C11.out.mono ?_
    rintro e w' ⟨rfl, rfl⟩
    go_wp2
    go_ret
    exact ⟨ret_int HF'.out.symm, rfl⟩

/-- One comes to x. -/
def Comes (G : Nat) (L : Nat → Nat) (Z : Nat → Nat → Int) (n : Nat) (Y : Nat → Int) (x : Nat) : Prop := ∃ k, Wk (Src n Y) (Ed G L Z) k x

theorem Dist.comes {G : Nat} {L : Nat → Nat} {Z : Nat → Nat → Int} {n : Nat} {Y : Nat → Int} {F : Nat → Int} {O : List Int} (h : Dist G (Src n Y) (Ed G L Z) F O) {x : Nat} (hx : x < G) : (F x != -1) = true ↔ Comes G L Z n Y x := by
  rw [bne_iff_ne]
  exact ⟨fun hh => ⟨_, h.snd x hx hh⟩, fun ⟨k, hk⟩ => (h.all k x hx hk).1⟩

set_option maxHeartbeats 1000000 in
theorem reach_ok (ga : Option Addr) (G gc : Nat) (L : Nat → Nat) (Z : Nat → Nat → Int) (a : Option Addr) (n c : Nat) (Y : Nat → Int) (w : World) (hL : ∀ r, r < G → L r ≤ 140737488355328) (hn : n ≤ 140737488355328) (h : Gr w ga G L Z) (hrow : Row w a n Y)
    (h0 : errF G L Z n Y = 0) :
    Calls Try.prog 39 #[.slice ga G gc, .slice a n c] w fun e w' => ∃ (b : Nat) (R : Nat → Bool), e = .returned (.tuple #[.slice (some ⟨b, 0, none⟩) G G, .int .i64 0]) ∧ Below w.heap.size w w' ∧ w.heap.size ≤ b ∧ w'.rowIs b 4 G (fun i => .bool (R i)) ∧
      ∀ x, x < G → (R x = true ↔ Comes G L Z n Y x) := by
  have C33 : Hid (Calls Try.prog 64 #[.slice ga G gc, .slice a n c] w fun e w' => e = .returned (.int .i64 0) ∧ w' = w) := by
    have := checkFrom_any ga G gc L Z a n c Y w hL hn h hrow
    rwa [h0] at this
  obtain ⟨hg, hin⟩ := errF_zero h0
  have hG := (errG_zero hg).1
  have C34 : Hid (Calls Try.prog 65 #[.slice ga G gc, .slice a n c] w fun e w' => ∃ F O v, e = .returned (.tuple #[.slice (some ⟨w.heap.size + 1 + 1, 0, none⟩) G G, v]) ∧ Dist G (Src n Y) (Ed G L Z) F O ∧ Bf w w' G F O v) := dist_any ga G gc L Z a n c Y w hL hn h hg hrow hin
  clear h hrow hL hg hin h0
  have hmk := run_make_row' (P := Try.prog) 48 4 (.bool false) 1 Try.underlying48 Try.info4 rfl .i64 .i64 G (by omega) (by omega)
  go_enter Try.func39, Try.ntmps39
  go_wp2_with fail
  refine C33.out.mono ?_
  rintro e w' ⟨rfl, rfl⟩
  go_wp2_with fail
  refine C34.out.mono ?_
  rintro e w1 ⟨F, O, v, rfl, hD, hB⟩
  have HD : Hid (Dist G (Src n Y) (Ed G L Z) F O) := hD
  have HB : Hid (Bf w' w1 G F O v) := hB
  clear hD hB C33 C34
  go_wp2
  clear hmk
  go_loopw [29] (fun i wr => ∃ k : Nat, k ≤ G ∧ i = .int .i64 k ∧ Below w1.heap.size w1 wr ∧ wr.rowIs w1.heap.size 4 G (fun x => .bool (if x < k then F x != -1 else false))) (fun i _ => G - (intOf i).toNat)
  case atStart => exact ⟨0, Nat.zero_le _, rfl, (Below.refl _ _).alloc (Nat.le_refl _) _, World.rowIs_made w1 (.bool false) G 4⟩
  case round =>
    obtain ⟨k, hk, rfl, hbel, hrw⟩ := hrel
    have HW : Hid (Below w1.heap.size w1 wr ∧ wr.rowIs w1.heap.size 4 G (fun x => .bool (if x < k then F x != -1 else false))) := ⟨hbel, hrw⟩
    clear hbel hrw
    by_cases hlt : k < G
    · have hf : wr.cell? ⟨w'.heap.size + 1 + 1, k, none⟩ = some (.int .i64 (F k)) := by
        rw [HW.out.1.cell (p := ⟨w'.heap.size + 1 + 1, k, none⟩) HB.out.far.lt]; exact HB.out.far.cell hlt
      have hc := HW.out.2.cell hlt
      have hz := HW.out.2.frozen k
      go_wp2
      go_roundw
      case rel =>
        refine ⟨k + 1, by omega, by go_num, HW.out.1.setCell (Nat.le_refl _) _, (HW.out.2.set k _).congr (fun i hi => ?_)⟩
        by_cases e : i = k
        · subst e; simp
        · rw [if_neg e]
          by_cases e2 : i < k
          · rw [if_pos e2, if_pos (by omega)]
          · rw [if_neg e2, if_neg (by omega)]
      case measure => simp [intOf]; omega
    · go_wp2
      go_ret2
      have hs := HB.out.below.size
      exact ⟨w1.heap.size, fun x => F x != -1, rfl, HB.out.below.trans (HW.out.1.mono hs), hs, HW.out.2.congr (fun i hi => by rw [if_pos (by omega)]), fun x hx => HD.out.comes hx⟩

end Go.Proofs.Ythpbgfodejoecaa

namespace Go.Proofs.Ythpbgfodejoecaa
open Go.RowKit

theorem row_zero (w : World) (a : Option Addr) (Z : Nat → Int) : Row w a 0 Z := ⟨0, 0, fun h => absurd h (Nat.lt_irrefl _), fun _ hi => absurd hi (Nat.not_lt_zero _)⟩

theorem Row.congr {w : World} {a : Option Addr} {n : Nat} {Y Z : Nat → Int} (h : Row w a n Y) (e : ∀ i, i < n → Y i = Z i) : Row w a n Z := by
  obtain ⟨b, o, ha, hc⟩ := h
  exact ⟨b, o, ha, fun i hi => by rw [← e i hi]; exact hc i hi⟩

theorem rowIs_lit (w : World) (c : Array Value) (t : TypeId) (b n : Nat) (f : Nat → Value) (hb : b = w.heap.size) (hn : c.size = n) (hf : ∀ i, i < n → c[i]? = some (f i)) : (w.alloc (.cells c t)).rowIs b t n f := by
  subst hb
  subst hn
  exact World.rowIs_alloc w c t f hf

/-- In w the slice at a, of n cells, holds the bools B. -/
def Rowb (w : World) (a : Option Addr) (n : Nat) (B : Nat → Bool) : Prop :=
  ∃ b o, (0 < n → a = some ⟨b, o, none⟩) ∧ ∀ i, i < n → w.cell? ⟨b, o + i, none⟩ = some (.bool (B i))

theorem Rowb.below {w w' : World} {a : Option Addr} {n : Nat} {B : Nat → Bool} (h : Rowb w a n B) (hb : Below w.heap.size w w') : Rowb w' a n B := by
  obtain ⟨b, o, ha, hc⟩ := h
  refine ⟨b, o, ha, fun i hi => ?_⟩
  rw [hb.cell (p := ⟨b, o + i, none⟩) (World.block_lt_of_cell? _ _ (hc i hi))]
  exact hc i hi

theorem rowb_of_rowIs {w : World} {b n : Nat} {B : Nat → Bool} (h : w.rowIs b 4 n (fun i => .bool (B i))) : Rowb w (some ⟨b, 0, none⟩) n B :=
  ⟨b, 0, fun _ => rfl, fun _ hi => by rw [Nat.zero_add]; exact h.cell hi⟩

/-- The numbers as a list. -/
def lst (n : Nat) (Z : Nat → Int) : List Int := (List.range n).map Z
theorem lst_len (n : Nat) (Z : Nat → Int) : (lst n Z).length = n := by simp [lst]
theorem lst_getD (n : Nat) (Z : Nat → Int) (i : Nat) (h : i < n) : (lst n Z).getD i 0 = Z i := by simp [lst, h]
theorem vals_len (l : List Int) : (vals l).length = l.length := by simp [vals]

theorem news_of_row {w : World} {x : Addr} {n : Nat} {Z : Nat → Int} (h : Row w (some x) n Z) : ∀ j u, (vals (lst n Z))[j]? = some u → w.cell? (x.add j) = some u := by
  intro j u hu
  obtain ⟨b, o, ha, hc⟩ := h
  have hj : j < n := by
    have := (List.getElem?_eq_some_iff.1 hu).1
    rwa [vals_len, lst_len] at this
  have hx := ha (by omega)
  simp only [Option.some.injEq] at hx
  subst hx
  have e : (vals (lst n Z))[j]? = some (.int .i64 (Z j)) := by simp [vals, lst, hj]
  rw [e] at hu
  cases hu
  have hadd : (⟨b, o, none⟩ : Addr).add j = ⟨b, o + j, none⟩ := by unfold Addr.add; split <;> simp_all
  rw [hadd]
  exact hc j hj

theorem vals_one (l : List Int) : ∀ u ∈ vals l, u.oneCell' = true := by
  intro u hu
  obtain ⟨x, _, rfl⟩ := List.mem_map.1 hu
  rfl

theorem clone_post {w w1 : World} {v' : Value} {n : Nat} {l : List Value} (hown : w1.ownsRow w.heap.size 3 1 v' (0 + n) ([] ++ l)) (hgrow : (w.alloc (.cells #[] 3)).grownBy w1 (Value.ownBlock (.slice (some ⟨w.heap.size, 0, none⟩) 0 0))) :
    Hid (w1.ownsRow w.heap.size 3 1 v' n l ∧ Below w.heap.size w w1) := by
  refine ⟨by rwa [Nat.zero_add, List.nil_append] at hown, ((Below.refl _ _).alloc (Nat.le_refl _) _).grown hgrow (by simp) (fun k hk => ?_)⟩
  simp only [Value.ownBlock, Option.some.injEq] at hk
  omega

end Go.Proofs.Ythpbgfodejoecaa
