/- distances, by its contract. -/
import Derived.RegionTactic
import Derived.Test.YthpbgfodejoecaaTurnJ
import Derived.Test.YthpbgfodejoecaaLast
namespace Go.Proofs.Ythpbgfodejoecaa
open Go.RowKit

theorem bf_start (w : World) (G : Nat) :
    Bf w (((w.alloc (.cells #[.slice (some ⟨w.heap.size + 1 + 1, 0, none⟩) G G] 26)).alloc (.cells #[.slice none 0 0] 26)).alloc (.cells (madeCells #[.int .i64 0] G) 3)) G (fun _ => 0) [] (.slice none 0 0) := by
  have one : ∀ (v : Value) (i : Nat), i < (#[v] : Array Value).size → (#[v] : Array Value)[i]? = some v := fun v i hi => by
    have : i = 0 := by simpa using hi
    subst this
    rfl
  have h1 := World.rowIs_alloc w #[.slice (some ⟨w.heap.size + 1 + 1, 0, none⟩) G G] 26 (fun _ => .slice (some ⟨w.heap.size + 1 + 1, 0, none⟩) G G) (one _)
  have h2 := World.rowIs_alloc (w.alloc (.cells #[.slice (some ⟨w.heap.size + 1 + 1, 0, none⟩) G G] 26)) #[.slice none 0 0] 26 (fun _ => .slice none 0 0) (one _)
  have h3 := World.rowIs_made ((w.alloc (.cells #[.slice (some ⟨w.heap.size + 1 + 1, 0, none⟩) G G] 26)).alloc (.cells #[.slice none 0 0] 26)) (.int .i64 0) G 3
  refine ⟨(((Below.refl _ _).alloc (Nat.le_refl _) _).alloc (by simp) _).alloc (by simp; omega) _, (h1.alloc _).alloc _, ?_, ?_, World.ownsRow_nil _ _ _ _⟩
  · have := h2.alloc (.cells (madeCells #[.int .i64 0] G) 3)
    simpa using this
  · simpa using h3

theorem Bf.congrF {w wr : World} {G : Nat} {F F' : Nat → Int} {O : List Int} {v : Value} (h : Bf w wr G F O v) (e : ∀ i, i < G → F i = F' i) : Bf w wr G F' O v :=
  ⟨h.below, h.farv, h.ordv, h.far.congr (fun i hi => by rw [e i hi]), h.own⟩

theorem Bf.drewN {w wr : World} {G : Nat} {F : Nat → Int} {O : List Int} {v : Value} (h : Bf w wr G F O v) (q : Nat) : Bf w (wr.drewN q) G F O v :=
  ⟨h.below.trans ⟨rfl, rfl, rfl, Nat.le_refl _, fun _ _ => rfl⟩, h.farv, h.ordv, h.far, h.own⟩

/-- 'return': both variables are stored into themselves. -/
theorem Bf.again {w wr : World} {G : Nat} {F : Nat → Int} {O : List Int} {v : Value} (h : Bf w wr G F O v) :
    Bf w ((wr.setCell ⟨w.heap.size, 0, none⟩ (.slice (some ⟨w.heap.size + 1 + 1, 0, none⟩) G G)).setCell ⟨w.heap.size + 1, 0, none⟩ v).drew G F O v := by
  refine ⟨((h.below.setCell (Nat.le_refl _) _).setCell (by show w.heap.size ≤ w.heap.size + 1; omega) _).drew, (((h.farv.set 0 _).congr (fun i hi => ?_)).setOther (by show w.heap.size ≠ w.heap.size + 1; omega) _).drew,
    (((h.ordv.setOther (by show w.heap.size + 1 ≠ w.heap.size; omega) _).set 0 _).congr (fun i hi => ?_)).drew, ((h.far.setOther (by show w.heap.size + 1 + 1 ≠ w.heap.size; omega) _).setOther (by show w.heap.size + 1 + 1 ≠ w.heap.size + 1; omega) _).drew,
    ownsRow_setCell_below (ownsRow_setCell_below h.own (by show w.heap.size < w.heap.size + 1 + 1 + 1; omega) _) (by show w.heap.size + 1 < w.heap.size + 1 + 1 + 1; omega) _⟩
  · have : i = 0 := by omega
    simp [this]
  · have : i = 0 := by omega
    simp [this]

/-- One may go from x to y. -/
def Ed (G : Nat) (L : Nat → Nat) (Z : Nat → Nat → Int) (x y : Nat) : Prop := x < G ∧ has (L x) (Z x) y = true
/-- x stands in the list. -/
def Src (n : Nat) (Z : Nat → Int) (x : Nat) : Prop := has n Z x = true

theorem has_iff {n : Nat} {Z : Nat → Int} {x : Int} : has n Z x = true ↔ ∃ i, i < n ∧ Z i = x := by unfold has; rw [decide_eq_true_eq]

set_option maxHeartbeats 1000000 in
theorem dist_any (ga : Option Addr) (G gc : Nat) (L : Nat → Nat) (Z : Nat → Nat → Int) (a : Option Addr) (n c : Nat) (Y : Nat → Int) (w : World) (hL : ∀ r, r < G → L r ≤ 140737488355328) (hn : n ≤ 140737488355328) (h : Gr w ga G L Z)
    (h0 : errG G L Z = 0) (hrow : Row w a n Y) (hin : ∀ i, i < n → 0 ≤ Y i ∧ Y i < G) :
    Calls Try.prog 65 #[.slice ga G gc, .slice a n c] w fun e w' => ∃ F O v, e = .returned (.tuple #[.slice (some ⟨w.heap.size + 1 + 1, 0, none⟩) G G, v]) ∧ Dist G (Src n Y) (Ed G L Z) F O ∧ Bf w w' G F O v := by
  obtain ⟨hG, hall⟩ := errG_zero h0
  have HA : Hid (∀ r, r < G → ∀ i, i < L r → 0 ≤ Z r i ∧ Z r i < G) := hall
  have HL : Hid (∀ r, r < G → L r ≤ 140737488355328) := hL
  have HG : Hid (Gr w ga G L Z) := h
  have HR : Hid (Row w a n Y) := hrow
  have HN : Hid (∀ i, i < n → 0 ≤ Y i ∧ Y i < G) := hin
  clear hL h h0 hrow hin hall
  have hmk := run_make_row' (P := Try.prog) 26 3 (.int .i64 0) 8 Try.underlying26 Try.info3 rfl .i64 .i64 G (by omega) (by omega)
  go_enter Try.func65, Try.ntmps65
  go_wp2
  clear hmk
  go_loopw [14] (fun i wr => ∃ k : Nat, k ≤ G ∧ i = .int .i64 k ∧ Bf w wr G (fun x => if x < k then -1 else 0) [] (.slice none 0 0)) (fun i _ => G - (intOf i).toNat)
  case atStart => exact ⟨0, Nat.zero_le _, rfl, bf_start w G⟩
  case round =>
    obtain ⟨k, hk, rfl, hB⟩ := hrel
    have HB : Hid (Bf w wr G (fun x => if x < k then -1 else 0) [] (.slice none 0 0)) := hB
    have hfv := hB.farv.cell (i := 0) (by omega)
    clear hB
    by_cases hlt : k < G
    · have hft := HB.out.far.cell hlt
      have hff := HB.out.far.frozen k
      go_wp2
      go_roundw
      case rel =>
        refine ⟨k + 1, by omega, by go_num, (HB.out.setFar k (-1)).congrF (fun i hi => ?_)⟩
        show upd (fun x => if x < k then -1 else 0) k (-1) i = if i < k + 1 then -1 else 0
        by_cases e : i = k
        · subst e; rw [upd_at, if_pos (by omega)]
        · rw [upd_ne _ _ _ _ e]
          show (if i < k then (-1 : Int) else 0) = if i < k + 1 then -1 else 0
          by_cases e2 : i < k
          · rw [if_pos e2, if_pos (by omega)]
          · rw [if_neg e2, if_neg (by omega)]
      case measure => simp [intOf]; omega
    · have hB2 := HB.out.congrF (F' := fun _ => -1) (fun i hi => by rw [if_pos (by omega)])
      have HB2 : Hid (Bf w wr G (fun _ => -1) [] (.slice none 0 0)) := hB2
      clear hB2 HB hfv
      go_wp2_with fail
      have hwk : ∀ i, i < n → 0 ≤ Y i ∧ Y i < G ∧ Src n Y (Y i).toNat := fun i hi => by
        have := HN.out i hi
        refine ⟨this.1, this.2, has_iff.2 ⟨i, hi, by omega⟩⟩
      have hlen : ∀ k, k ≤ n → ∀ F O, (F, O) = meetTo 0 Y k (fun _ => -1, []) → O.length ≤ G := fun k hk F O e =>
        (meetTo_all (inv_start G (Src n Y) (Ed G L Z)) (Int.le_refl _) (Int.le_refl _) Y k (fun i hi => hwk i (by omega)) F O e).1.len
      refine (meet_any w wr G (fun _ => -1) [] (.slice none 0 0) a n c Y 0 hG hn HR.out HN.out hlen HB2.out).mono ?_
      rintro e w1 ⟨rfl, F, O, v, hs, hB⟩
      have hH : Head G (Src n Y) (Ed G L Z) 0 F O := Head.start hwk (fun x hx _ => by obtain ⟨i, hi, e⟩ := has_iff.1 hx; exact ⟨i, hi, by omega⟩) hs
      have HX : Hid (∃ F O v, Head G (Src n Y) (Ed G L Z) 0 F O ∧ Bf w w1 G F O v) := ⟨F, O, v, hH, hB⟩
      clear hs hB hH hlen hwk HB2
      go_wp2
      go_loopw [8] (fun i wr => ∃ k : Nat, k ≤ G ∧ i = .int .i64 k ∧ Hid (∃ F O v, Head G (Src n Y) (Ed G L Z) k F O ∧ Bf w wr G F O v)) (fun i _ => G - (intOf i).toNat)
      case atStart => exact ⟨0, Nat.zero_le _, rfl, HX⟩
      case round =>
        obtain ⟨k, hk, rfl, hX⟩ := hrel
        clear HX
        obtain ⟨F, O, v, hH, hB⟩ := hX.out
        clear hX
        have HH : Hid (Head G (Src n Y) (Ed G L Z) k F O) := hH
        have HB : Hid (Bf w wr G F O v) := hB
        have hol := hH.len
        obtain ⟨a2, c2, hv, hrow2⟩ := owns_row hB.own
        have hov := hB.ordv.cell (i := 0) (by omega)
        rw [hv] at hov
        have HV : Hid (v = .slice a2 O.length c2) := hv
        have HR2 : Hid (Row wr a2 O.length (fun i => O.getD i 0)) := hrow2
        clear hH hB hv hrow2
        generalize hmm : O.length = m at *
        have HM : Hid (O.length = m) := hmm
        clear hmm
        by_cases hlt : k < m
        · have hkm : (k : Int) < m := by omega
          obtain ⟨x, hx, ex, x0, xi, hI, hw⟩ := HH.out.node (by rw [HM.out]; exact hlt)
          have EX : Hid (O.getD k 0 = (x : Int)) := ex
          have HIv : Hid (Inv G (Src n Y) (Ed G L Z) (F x + 1) F O ∧ Wk (Src n Y) (Ed G L Z) (F x).toNat x) := ⟨hI, hw⟩
          clear ex hI hw
          obtain ⟨b2, o2, ha2, hc2⟩ := HR2.out
          obtain rfl := ha2 (by omega)
          have hxc : wr.cell? ⟨b2, o2 + k, none⟩ = some (.int .i64 x) := by rw [hc2 k hlt]; exact congrArg (fun z => some (Value.int .i64 z)) EX.out
          clear hc2 ha2
          have hxz : (x : Int) < G := by omega
          have hfv := HB.out.farv.cell (i := 0) (by omega)
          have hfx := HB.out.far.cell hx
          obtain ⟨b3, o3, ha3, hc3⟩ := HG.out
          obtain rfl := ha3 (by omega)
          obtain ⟨a4, c4, hg0, hr0⟩ := hc3 x hx
          have hgx : wr.cell? ⟨b3, o3 + x, none⟩ = some (.slice a4 (L x) c4) := by
            rw [HB.out.below.cell (p := ⟨b3, o3 + x, none⟩) (World.block_lt_of_cell? _ _ hg0)]; exact hg0
          have HR4 : Hid (Row w a4 (L x) (Z x)) := hr0
          clear hg0 hr0 hc3 ha3
          have hLx := HL.out x hx
          have hzx : ∀ i, i < L x → 0 ≤ Z x i ∧ Z x i < G := HA.out x hx
          have hwk : ∀ i, i < L x → 0 ≤ Z x i ∧ Z x i < G ∧ Wk (Src n Y) (Ed G L Z) (F x + 1).toNat (Z x i).toNat := fun i hi => by
            have := hzx i hi
            refine ⟨this.1, this.2, ?_⟩
            have e : (F x + 1).toNat = (F x).toNat + 1 := by omega
            rw [e]
            exact ⟨x, HIv.out.2, hx, has_iff.2 ⟨i, hi, by omega⟩⟩
          have hlen : ∀ k, k ≤ L x → ∀ F' O', (F', O') = meetTo (F x + 1) (Z x) k (F, O) → O'.length ≤ G := fun k hk F' O' e =>
            (meetTo_all HIv.out.1 (by omega) (by have := HM.out; omega) (Z x) k (fun i hi => hwk i (by omega)) F' O' e).1.len
          have HC : Hid (∀ q, Calls Try.prog 94 #[.slice a4 (L x) c4, .int .i64 (F x + 1), .pointer (some ⟨w.heap.size, 0, none⟩), .pointer (some ⟨w.heap.size + 1, 0, none⟩)] (wr.drewN q) fun e w' => e = .returned (.tuple #[]) ∧ ∃ F' O' v', (F', O') = meetTo (F x + 1) (Z x) (L x) (F, O) ∧ Bf w w' G F' O' v') :=
            fun q => meet_any w (wr.drewN q) G F O v a4 (L x) c4 (Z x) (F x + 1) hG hLx HR4.out hzx hlen (HB.out.drewN q)
          clear hwk hlen hzx
          go_wp2_with fail
          refine wp_region_last 16 _ (by kernel_rfl) (by kernel_rfl) rfl rfl ?_
          simp only [List.take]
          repeat (go_big_quiet_step (fail))
          refine wpQuiet_nil ?_
          intro nq
          go_wp2_with fail
          refine (HC.out nq).mono ?_
          rintro e w2 ⟨rfl, F', O', v', hs, hB⟩
          have HN2 : Hid (∃ F O v, Head G (Src n Y) (Ed G L Z) (k + 1) F O ∧ Bf w w2 G F O v) :=
            ⟨F', O', v', HH.out.next (by rw [HM.out]; exact hlt) hx EX.out (fun i hi => by
              have := HA.out x hx i hi
              exact ⟨this.1, this.2, hx, has_iff.2 ⟨i, hi, by omega⟩⟩) (fun y hy _ => by
              obtain ⟨i, hi, e⟩ := has_iff.1 hy.2
              exact ⟨i, hi, by omega⟩) hs, hB⟩
          clear hs hB HC HIv HH HB HV HR2 HR4 hov hxc hgx hfv hfx
          go_wp2
          go_roundw
          case rel => exact ⟨k + 1, by omega, by go_num, HN2⟩
          case measure => simp [intOf]; omega
        · have hfv := HB.out.farv.cell (i := 0) (by omega)
          have hff := HB.out.farv.frozen 0
          have hof := HB.out.ordv.frozen 0
          go_wp2_with fail
          go_region
          have hB3 := HB.out.again
          rw [HV.out] at hB3
          have HB3 : Hid (Bf w ((wr.setCell ⟨w.heap.size, 0, none⟩ (.slice (some ⟨w.heap.size + 1 + 1, 0, none⟩) G G)).setCell ⟨w.heap.size + 1, 0, none⟩ (.slice a2 m c2)).drew G F O (.slice a2 m c2)) := hB3
          have hq1 : ((wr.setCell ⟨w.heap.size, 0, none⟩ (.slice (some ⟨w.heap.size + 1 + 1, 0, none⟩) G G)).setCell ⟨w.heap.size + 1, 0, none⟩ (.slice a2 m c2)).cell? ⟨w.heap.size, 0, none⟩ = some (.slice (some ⟨w.heap.size + 1 + 1, 0, none⟩) G G) := hB3.farv.cell (i := 0) (by omega)
          have hq2 : ((wr.setCell ⟨w.heap.size, 0, none⟩ (.slice (some ⟨w.heap.size + 1 + 1, 0, none⟩) G G)).setCell ⟨w.heap.size + 1, 0, none⟩ (.slice a2 m c2)).cell? ⟨w.heap.size + 1, 0, none⟩ = some (.slice a2 m c2) := hB3.ordv.cell (i := 0) (by omega)
          clear hB3
          go_wp2
          refine bodyPost_ret (v := .tuple #[.slice (some ⟨w.heap.size + 1 + 1, 0, none⟩) G G, .slice a2 m c2]) ?_ rfl ⟨F, O, _, rfl, HH.out.dist (by rw [HM.out]; exact hlt) (fun x y h => h.1), HB3.out⟩
          simp [results, Try.results65, go_sem, hq1, hq2]

end Go.Proofs.Ythpbgfodejoecaa
