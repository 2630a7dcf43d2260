/-   -/
import Derived.Test.YtmdpbaobihdgkaaGreatDoorAStb
/- join, list, setOf. -/
/- Slices of sets; setsOf. -/
namespace Go.Proofs.YtmdpbaobihdgkaaGreatDoor
open Go.RowKit
def sor (x y : Nat → Nat) (i : Nat) : Nat := x i ||| y i
theorem mem_or (x y : Nat → Nat) (s : Nat) : mem (sor x y) s = (mem x s || mem y s) := by unfold mem sor; rw [Nat.testBit_or]
theorem mem_and (x y : Nat → Nat) (s : Nat) : mem (sand x y) s = (mem x s && mem y s) := by unfold mem sand; rw [Nat.testBit_and]
theorem mem_zero (s : Nat) : mem (fun _ => 0) s = false := by simp [mem]
set_option maxHeartbeats 1000000 in
theorem join_any (b c q : Nat) (x y : Nat → Nat) (w : World) (hx : Bx w b x) (hy : St w c q y) (hbc : c ≠ b) :
  Calls Tryz.prog 72 #[.pointer (some ⟨b, 0, none⟩), .pointer (some ⟨c, q, none⟩)] w fun e w' => (∃ v, e = .returned v) ∧ Bx w' b (sor x y) ∧ But b w w' ∧ w'.heap.size = w.heap.size := by
 have HX : Hid (Bx w b x) := hx
 have HY : Hid (St w c q y) := hy
 have HBC : Hid (c ≠ b) := hbc
 clear hx hy hbc
 go_enter Tryz.func72, Tryz.ntmps72
 go_wp2
 go_loopw [5] (fun i wr => ∃ k : Nat, k ≤ 32 ∧ i = .int .i64 k ∧ Hid (But b w wr ∧ wr.heap.size = w.heap.size ∧ Bx wr b (fun j => if j < k then sor x y j else x j))) (fun i _ => 32 - (intOf i).toNat)
 case atStart => exact ⟨0, by omega, rfl, hid ⟨But.refl _ _, rfl, HX.out.congr (fun i _ => by rw [if_neg (by omega)])⟩⟩
 case round =>
  obtain ⟨k, hk, rfl, H⟩ := hrel
  by_cases hlt : k < 32
  ·have h1 : wr.cell? ⟨b, k, none⟩ = some (.int .u64 (x k : Nat)) := by
    have := H.out.2.2.st.cell k hlt
    rw [Nat.zero_add, if_neg (by omega)] at this
    exact this
   have h4 := H.out.2.2.st.free k hlt
   rw [Nat.zero_add] at h4
   have h2 : wr.cell? ⟨c, q + k, none⟩ = some (.int .u64 (y k : Nat)) := H.out.1.cell HBC.out (HY.out.cell k hlt)
   have E : Hid (bits BinOp.or IntKind.u64 (x k : Nat) (y k : Nat) = ((sor x y k : Nat) : Int)) := bits_or_u64_nat _ _ (HX.out.small k hlt) (HY.out.small k hlt)
   go_wp2
   go_region
   rw [E.out]
   go_wp2
   go_roundw
   case rel =>
    have hsm : sor x y k < 18446744073709551616 := or_small (HX.out.small k hlt) (HY.out.small k hlt)
    refine ⟨k + 1, by omega, by go_num, hid ⟨?_, ?_, ?_⟩⟩
    ·exact (H.out.1.setCell k _).trans ((Sm.refl _).drew.but b)
    ·have := H.out.2.1; simpa [World.setCell] using this
    ·refine ((H.out.2.2.set hlt hsm).drew).congr (fun i hi => ?_)
     unfold upd
     by_cases e : i = k
     ·subst e; simp
     ·simp only [if_neg e]
      by_cases e2 : i < k
      ·rw [if_pos e2, if_pos (by omega)]
      ·rw [if_neg e2, if_neg (by omega)]
   case measure => simp [intOf]; omega
  ·go_wp2
   go_end0
   exact ⟨⟨_, rfl⟩, H.out.2.2.congr (fun i hi => by rw [if_pos (by omega)]), H.out.1, H.out.2.1⟩
def lstN (x : Nat → Nat) (n : Nat) : List Int := ((List.range n).filter (fun s => mem x s)).map (fun s : Nat => (s : Int))
theorem lstN_succ (x : Nat → Nat) (n : Nat) : lstN x (n + 1) = lstN x n ++ if mem x n = true then [(n : Int)] else [] := by
 unfold lstN
 rw [List.range_succ, List.filter_append, List.map_append]
 by_cases h : mem x n = true <;> simp [h]
theorem lstN_skip (x : Nat → Nat) (n : Nat) : ∀ d, (∀ j, n ≤ j → j < n + d → mem x j = false) → lstN x (n + d) = lstN x n
 | 0, _ => rfl
 | d + 1, h => by
  rw [← Nat.add_assoc, lstN_succ, h (n + d) (by omega) (by omega), lstN_skip x n d (fun j a b => h j a (by omega))]
  simp
theorem lstN_len (x : Nat → Nat) (n : Nat) : (lstN x n).length ≤ n := by
 unfold lstN
 rw [List.length_map]
 exact Nat.le_trans (List.length_filter_le _ _) (by simp)
theorem mem_lstN (x : Nat → Nat) (n : Nat) (z : Int) : z ∈ lstN x n ↔ ∃ s : Nat, s < n ∧ mem x s = true ∧ z = s := by
 unfold lstN
 rw [List.mem_map]
 constructor
 ·rintro ⟨s, hs, rfl⟩
  rw [List.mem_filter, List.mem_range] at hs
  exact ⟨s, hs.1, hs.2, rfl⟩
 ·rintro ⟨s, h1, h2, rfl⟩
  exact ⟨s, List.mem_filter.2 ⟨List.mem_range.2 h1, h2⟩, rfl⟩
theorem ints_step {w wr w1 : World} {v v' : Value} {l : List Int} {x : Int} {o : Obj} (hb : Below w.heap.size w wr) (ho : wr.ownsRow w.heap.size 3 1 v l.length (vals l))
  (hown : w1.ownsRow w.heap.size 3 1 v' (l.length + 1) (vals l ++ [.int .i64 x])) (hgrow : (wr.alloc o).grownBy w1 v.ownBlock) :
  Below w.heap.size w w1 ∧ w1.ownsRow w.heap.size 3 1 v' (l ++ [x]).length (vals (l ++ [x])) := by
 refine ⟨hb.grown ((World.grownBy_alloc _ _ _).trans hgrow) hb.size (fun k hk => (ho.lt k hk).1), ?_⟩
 have : (l ++ [x]).length = l.length + 1 := by simp
 rw [this, ← vals_snoc]
 exact hown
set_option maxHeartbeats 2000000 in
theorem list_any (b o : Nat) (x : Nat → Nat) (w : World) (hx : St w b o x) (hT : Tb w) :
  Calls Tryz.prog 71 #[.pointer (some ⟨b, o, none⟩)] w fun e w' => ∃ v, e = .returned v ∧ w'.ownsRow w.heap.size 3 1 v (lstN x 2048).length (vals (lstN x 2048)) ∧ Below w.heap.size w w' := by
 have HX : Hid (St w b o x) := hx
 have HT : Hid (Tb w) := hT
 clear hx hT
 obtain ⟨i0, hi, hz0, hz1, hz2⟩ := info_parts Tryz.info3
 have HI : Hid (Tryz.prog.info? 3 = some i0 ∧ i0.zero = some (.int .i64 0) ∧ i0.size = 1 ∧ i0.bytes = 8) := ⟨hi, hz0, hz1, hz2⟩
 clear hi hz0 hz1 hz2
 go_enter Tryz.func71, Tryz.ntmps71
 go_wp2
 go_loopw [3, 7] (fun v i wr => ∃ k : Nat, k ≤ 32 ∧ i = .int .i64 k ∧ Hid (Below w.heap.size w wr ∧ wr.ownsRow w.heap.size 3 1 v (lstN x (64 * k)).length (vals (lstN x (64 * k))))) (fun _ i _ => 32 - (intOf i).toNat)
 case atStart => exact ⟨0, by omega, rfl, hid ⟨Below.refl _ _, World.ownsRow_nil _ _ _ _⟩⟩
 case round =>
  rename_i v _
  obtain ⟨k, hk, rfl, H⟩ := hrel
  by_cases hlt : k < 32
  ·have h1 : wr.cell? ⟨b, o + k, none⟩ = some (.int .u64 (x k : Nat)) := below_cell H.out.1 jq0 (HX.out.cell k hlt)
   go_wp2
   go_region
   go_wp2
   have HLT : Hid (k < 32) := hlt
   clear hlt
   go_loopw [3, 5] (fun v wd wi => ∃ d c : Nat, c ≤ 64 ∧ wd = .int .u64 (d : Nat) ∧ d < 18446744073709551616 ∧ Hid ((∀ j, d.testBit j = (decide (c ≤ j) && (x k).testBit j)) ∧ Below w.heap.size w wi ∧ wi.ownsRow w.heap.size 3 1 v (lstN x (64 * k + c)).length (vals (lstN x (64 * k + c))))) (fun _ wd _ => (intOf wd).toNat)
   case atStart => exact ⟨x k, 0, by omega, rfl, HX.out.small k HLT.out, hid ⟨fun j => by simp, H.out.1.drew, by simpa using H.out.2.drew⟩⟩
   case round =>
    obtain ⟨d, c, hc, rfl, hd, H2⟩ := hrel
    by_cases h0 : d = 0
    ·subst h0
     go_wp2
     go_roundw
     case rel =>
      refine ⟨k + 1, HLT.out, by go_num, hid ⟨H2.out.2.1, ?_⟩⟩
      have e : lstN x (64 * (k + 1)) = lstN x (64 * k + c) := by
       rw [show 64 * (k + 1) = 64 * k + c + (64 - c) by omega]
       refine lstN_skip x _ _ (fun j h1 h2 => ?_)
       have := H2.out.1 (j - 64 * k)
       unfold mem
       rw [show j / 64 = k by omega, show j % 64 = j - 64 * k by omega]
       have hcj : c ≤ j - 64 * k := by omega
       simpa [hcj] using this.symm
      rw [e]
      exact H2.out.2.2
     case measure => have := HLT.out; simp [intOf]; omega
    ·have hn : ((d : Int) == 0) = false := beq_eq_false_iff_ne.2 (by omega)
     have hT1 : Tb wr := fun j hj => below_cell H2.out.2.1 jq0 (HT.out j hj)
     have C : Hid (Calls Tryz.prog 104 #[.int .u64 d] wr fun e w' => e = .returned (.int .i64 (Lib.ctz 64 d)) ∧ w' = wr) := tz_any d hd h0 _ hT1
     obtain ⟨hz, hb1, hb2, hb3⟩ := ctz_bit hd h0
     have HB : Hid (d.testBit (Lib.ctz 64 d) = true ∧ (∀ j, j < Lib.ctz 64 d → d.testBit j = false) ∧ ∀ j, (d &&& (d - 1)).testBit j = (decide (Lib.ctz 64 d < j) && d.testBit j)) := ⟨hb1, hb2, hb3⟩
     clear hb1 hb2 hb3 hT1
     generalize Lib.ctz 64 d = z at *
     have E : Hid (bits BinOp.and IntKind.u64 (d : Nat) ((d : Int) - 1) = ((d &&& (d - 1) : Nat) : Int)) := by
      have e1 : (d : Int) - 1 = ((d - 1 : Nat) : Int) := by omega
      rw [e1]
      exact hid (bits_and_u64_nat _ _ hd (by omega))
     have hlen := lstN_len x (64 * k + c)
     have hsz := H2.out.2.1.size
     go_wp2_with fail
     refine C.out.mono ?_
     rintro e w' ⟨rfl, rfl⟩
     go_wp2_with (at_builtin; refine wpList_append_own_at _ rfl _ _ 29 rfl w.heap.size 3 i0 (.int .i64 0) 1 8 Tryz.underlying29 HI.out.1 HI.out.2.1 HI.out.2.2.1 HI.out.2.2.2 rfl (by decide) _ _ _ rfl (H2.out.2.2.alloc _) ⟨w'.heap.size, 0, none⟩ 1 1 [.int .i64 (k * 64 + z : Int)] rfl rfl (cell_one_new _ _ _) (ints_oneCell .i64 [(k * 64 + z : Int)]) (by unfold maxLen; omega) (by omega) (by simp; omega) ?_; intro v' w2 hown' hgrow hnil hloc; have G := hid (ints_step H2.out.2.1 H2.out.2.2 hown' hgrow); clear hown' hgrow hnil hloc)
     rw [E.out, show decide ((k : Int) < 32) = true from decide_eq_true (by have := HLT.out; omega)]
     have hcz : c ≤ z := by
      have := H2.out.1 z
      rw [HB.out.1] at this
      simpa using (Bool.and_eq_true_iff.1 this.symm).1
     go_roundw
     case rel =>
      refine ⟨d &&& (d - 1), z + 1, by omega, rfl, Nat.lt_of_le_of_lt Nat.and_le_left hd, hid ⟨fun j => ?_, G.out.1, ?_⟩⟩
      ·rw [HB.out.2.2, H2.out.1]
       by_cases hj : z < j
       ·have h2 : c ≤ j := by omega
        have h3 : z + 1 ≤ j := hj
        simp [hj, h2, h3]
       ·have h3 : ¬ z + 1 ≤ j := by omega
        simp [hj, h3]
      ·have e : lstN x (64 * k + (z + 1)) = lstN x (64 * k + c) ++ [(k * 64 + z : Int)] := by
        rw [← Nat.add_assoc, lstN_succ, show 64 * k + z = 64 * k + c + (z - c) by omega, lstN_skip x _ _ (fun j h1 h2 => ?_)]
        ·have h5 : mem x (64 * k + c + (z - c)) = true := by
          unfold mem
          rw [show (64 * k + c + (z - c)) / 64 = k by omega, show (64 * k + c + (z - c)) % 64 = z by omega]
          have := H2.out.1 z
          rw [HB.out.1] at this
          exact (Bool.and_eq_true_iff.1 this.symm).2
         rw [if_pos h5, show ((64 * k + c + (z - c) : Nat) : Int) = (k * 64 + z : Int) by omega]
        ·have := H2.out.1 (j - 64 * k)
         rw [HB.out.2.1 _ (by omega)] at this
         unfold mem
         rw [show j / 64 = k by omega, show j % 64 = j - 64 * k by omega]
         have hcj : c ≤ j - 64 * k := by omega
         simpa [hcj] using this.symm
       rw [e]
       exact G.out.2
     case measure =>
      have h5 : d &&& (d - 1) ≤ d - 1 := Nat.and_le_right
      simp [intOf]; omega
  ·go_wp2
   go_ret
   obtain rfl : k = 32 := by omega
   exact ⟨_, rfl, H.out.2, H.out.1⟩
def ofL (Z : Nat → Int) : Nat → Nat → Nat
 | 0 => fun _ => 0
 | k + 1 => sadd (ofL Z k) (Z k).toNat
theorem ofL_small {Z : Nat → Int} : ∀ {k : Nat}, (∀ i, i < k → 0 ≤ Z i ∧ Z i < 2048) → ∀ i, i < 32 → ofL Z k i < 18446744073709551616
 | 0, _ => fun _ _ => by simp [ofL]
 | k + 1, h => sadd_small (ofL_small (fun i hi => h i (by omega))) (by have := h k (by omega); omega)
theorem mem_ofL {Z : Nat → Int} (s : Nat) : ∀ {k : Nat}, (∀ i, i < k → 0 ≤ Z i ∧ Z i < 2048) → mem (ofL Z k) s = has k Z s
 | 0, _ => by rw [has_zero]; exact mem_zero s
 | k + 1, h => by
  have h1 := h k (by omega)
  rw [has_succ, ofL, mem_add, mem_ofL s (fun i hi => h i (by omega)), Bool.or_comm]
  congr 1
  rw [Bool.eq_iff_iff]
  simp only [decide_eq_true_eq]
  omega
set_option maxHeartbeats 1000000 in
theorem setOf_any (a : Option Addr) (n c : Nat) (Z : Nat → Int) (w : World) (hn : n ≤ 140737488355328) (h : Row w a n Z) (hZ : ∀ i, i < n → 0 ≤ Z i ∧ Z i < 2048) :
  Calls Tryz.prog 27 #[.slice a n c] w fun e w' => e = .returned (.agg (cellsS (ofL Z n))) ∧ Below w.heap.size w w' := by
 obtain ⟨b, o, ha, hc⟩ := h
 have HC : Hid (∀ i, i < n → w.cell? ⟨b, o + i, none⟩ = some (.int .i64 (Z i))) := hc
 have HZ : Hid (∀ i, i < n → 0 ≤ Z i ∧ Z i < 2048) := hZ
 clear hc hZ
 go_enter Tryz.func27, Tryz.ntmps27
 go_wp2
 rw [zeroS]
 go_loopw [8] (fun i wr => ∃ k : Nat, k ≤ n ∧ i = .int .i64 k ∧ Hid (Below w.heap.size w wr ∧ Bx wr (w.heap.size + 1) (ofL Z k) ∧ Bx wr w.heap.size (fun _ => 0))) (fun i _ => n - (intOf i).toNat)
 case atStart => exact ⟨0, by omega, rfl, hid ⟨((Below.refl _ _).alloc jq0 _).alloc (by simp) _, by have hq := (bx_new (w.alloc (.cells (cellsS (fun _ => 0)) 69)) (fun _ => 0) (fun _ _ => by decide)); rw [World.size_alloc] at hq; exact hq, (bx_new w (fun _ => 0) (fun _ _ => by decide)).below (box_below _ _) (by simp)⟩⟩
 case round =>
  obtain ⟨k, hk, rfl, H⟩ := hrel
  by_cases hlt : k < n
  ·obtain rfl := ha (by omega)
   obtain ⟨t, ht⟩ : ∃ t : Nat, Z k = t := ⟨(Z k).toNat, by have := HZ.out k hlt; omega⟩
   have ht2 : t < 2048 := by have := HZ.out k hlt; omega
   have h1 : wr.cell? ⟨b, o + k, none⟩ = some (.int .i64 t) := by
    have := below_cell H.out.1 jq0 (HC.out k hlt)
    rwa [ht] at this
   have HT : Hid (Z k = t) := ht
   clear ht ha
   have C := hid (addB (w.heap.size + 1) (ofL Z k) t wr ht2 H.out.2.1)
   go_wp2_with fail
   refine C.out.mono ?_
   rintro e w' ⟨⟨v, rfl⟩, h1, h2, h3⟩
   have HH := hid (And.intro h1 (And.intro h2 h3))
   clear h1 h2 h3
   go_wp2
   go_roundw
   case rel =>
    refine ⟨k + 1, by omega, by go_num, hid ⟨H.out.1.trans (HH.out.2.1.below (by omega) H.out.1.size), ?_, H.out.2.2.but HH.out.2.1 (by omega)⟩⟩
    show Bx w' _ (sadd (ofL Z k) (Z k).toNat)
    rw [HT.out]
    exact HH.out.1
   case measure => simp [intOf]; omega
  ·have HK : Hid (k = n) := hid (by omega)
   have hsz := H.out.2.1.small
   go_wp2_with (first | (refine wl_load rfl _ rfl (w.heap.size + 1) 0 rfl _ H.out.2.1.st ?_) | (refine wl_store rfl _ _ rfl w.heap.size (ofL Z k) rfl rfl _ H.out.2.2 hsz ?_; intro w1 hb1 hs1 hx1))
   refine bodyPost_ret (res_set rfl rfl hx1) rfl ?_
   exact ⟨by rw [HK.out], H.out.1.trans (hb1.below jq0 H.out.1.size)⟩
end Go.Proofs.YtmdpbaobihdgkaaGreatDoor
namespace Go.Proofs.YtmdpbaobihdgkaaGreatDoor
open Go.RowKit
def Ls (w : World) (b n : Nat) (X : Nat → Nat → Nat) : Prop := ∀ i, i < n → St w b (i * 32) (X i)
theorem St.congr {w : World} {b o : Nat} {x y : Nat → Nat} (h : St w b o x) (e : ∀ i, i < 32 → x i = y i) : St w b o y :=
 ⟨fun i hi => by rw [← e i hi]; exact h.cell i hi, h.free, fun i hi => by rw [← e i hi]; exact h.small i hi⟩
theorem St.lt {w : World} {b o : Nat} {x : Nat → Nat} (h : St w b o x) : b < w.heap.size := World.block_lt_of_cell? _ _ (h.cell 0 (by omega))
theorem St.of_block {w w' : World} {b o : Nat} {x : Nat → Nat} (h : St w b o x) (e : w'.heap[b]? = w.heap[b]?) : St w' b o x :=
 ⟨fun i hi => by rw [World.cell?_of_block (w := w) (by exact e)]; exact h.cell i hi, fun i hi => by
  have := h.free i hi
  unfold World.frozen? at this ⊢
  simp only [e]
  exact this, h.small⟩
theorem St.below {w w' : World} {b o B : Nat} {x : Nat → Nat} (h : St w b o x) (hb : Below B w w') (hB : b < B) : St w' b o x := h.of_block (hb.block b hB)
theorem St.below' {w w' : World} {b o : Nat} {x : Nat → Nat} (h : St w b o x) (hb : Below w.heap.size w w') : St w' b o x := h.below hb h.lt
theorem St.but {w w' : World} {b o c : Nat} {x : Nat → Nat} (h : St w b o x) (hb : But c w w') (hc : b ≠ c) : St w' b o x := h.of_block (hb.block b h.lt hc)
theorem Ls.below' {w w' : World} {b n : Nat} {X : Nat → Nat → Nat} (h : Ls w b n X) (hb : Below w.heap.size w w') : Ls w' b n X := fun i hi => (h i hi).below' hb
theorem Ls.but {w w' : World} {b n c : Nat} {X : Nat → Nat → Nat} (h : Ls w b n X) (hb : But c w w') (hc : b ≠ c) : Ls w' b n X := fun i hi => (h i hi).but hb hc
theorem Ls.congr {w : World} {b n : Nat} {X Y : Nat → Nat → Nat} (h : Ls w b n X) (e : ∀ i, i < n → ∀ j, j < 32 → X i j = Y i j) : Ls w b n Y := fun i hi => (h i hi).congr (e i hi)
theorem St.set {w : World} {b o : Nat} {x : Nat → Nat} (h : St w b o x) {i v : Nat} (hi : i < 32) (hv : v < 18446744073709551616) : St (w.setCell ⟨b, o + i, none⟩ (.int .u64 (v : Nat))) b o (upd x i v) := by
 refine ⟨fun j hj => ?_, fun j hj => by rw [World.frozen?_setCell]; exact h.free j hj, upd_small h.small hv⟩
 unfold upd
 by_cases e : j = i
 ·subst e
  rw [if_pos rfl]
  exact World.cell?_setCell_same _ _ _ (h.cell j hj)
 ·rw [if_neg e, World.cell?_setCell_other _ _ _ _ (by intro hh; simp only [Addr.mk.injEq] at hh; omega)]
  exact h.cell j hj
theorem St.set_apart {w : World} {b o : Nat} {x : Nat → Nat} (h : St w b o x) {q i : Nat} {v : Value} (hi : i < 32) (hq : q + 32 ≤ o ∨ o + 32 ≤ q) : St (w.setCell ⟨b, q + i, none⟩ v) b o x :=
 ⟨fun j hj => by rw [World.cell?_setCell_other _ _ _ _ (by intro hh; simp only [Addr.mk.injEq] at hh; omega)]; exact h.cell j hj, fun j hj => by rw [World.frozen?_setCell]; exact h.free j hj, h.small⟩
theorem Sm.ls {u w : World} (h : Sm u w) {b n : Nat} {X : Nat → Nat → Nat} (k : Ls u b n X) : Ls w b n X := fun i hi => h.st (k i hi)
def at1 (X : Nat → Nat → Nat) (i : Nat) (x : Nat → Nat) : Nat → Nat → Nat := fun j => if j = i then x else X j
theorem Ls.set {w : World} {b n : Nat} {X : Nat → Nat → Nat} (h : Ls w b n X) {i k v : Nat} (hi : i < n) (hk : k < 32) (hv : v < 18446744073709551616) : Ls (w.setCell ⟨b, i * 32 + k, none⟩ (.int .u64 (v : Nat))) b n (at1 X i (upd (X i) k v)) := by
 intro j hj
 unfold at1
 by_cases e : j = i
 ·subst e; rw [if_pos rfl]; exact (h j hj).set hk hv
 ·rw [if_neg e]; exact (h j hj).set_apart hk (by omega)
theorem setCells_st {w : World} {b o : Nat} {x y : Nat → Nat} (h : St w b o x) (hy : ∀ i, i < 32 → y i < 18446744073709551616) : St (w.setCells b o (cellsS y).toList) b o y := by
 have ht : w.there b o (cellsS y).toList.length := fun j hj => by
  have hj : j < 32 := by simpa [cellsS_size] using hj
  exact ⟨by rw [h.cell j hj]; rfl, h.free j hj⟩
 refine ⟨fun i hi => World.rangeAt_setCells_same w b o _ ht i _ (by simpa using cellsS_at y i hi), fun i hi => by rw [World.frozen?_setCells]; exact h.free i hi, hy⟩
theorem setCells_apart {w : World} {b o q : Nat} {x y : Nat → Nat} (h : St w b o x) (hq : q + 32 ≤ o ∨ o + 32 ≤ q) : St (w.setCells b q (cellsS y).toList) b o x := by
 refine ⟨fun i hi => ?_, fun i hi => by rw [World.frozen?_setCells]; exact h.free i hi, h.small⟩
 exact World.rangeAt_setCells_apart h.range b q _ (by simp [cellsS_size]; omega) i _ (by simpa using cellsS_at x i hi)
theorem wl_store' {ops : Array Oper} {rest : List Oper} {op : Oper} {a : Act} {w : World} {Q : Exit → Act → World → Prop} (hgd : op.guard = none) (x y : Operand) (ho : op.op = .store 69 x y)
  (b o : Nat) (z : Nat → Nat) (hx : a.eval x = .pointer (some ⟨b, o, none⟩)) (hy : a.eval y = .agg (cellsS z)) (z0 : Nat → Nat) (hs : St w b o z0) (hz : ∀ i, i < 32 → z i < 18446744073709551616)
  (h : ∀ w', But b w w' → w'.heap.size = w.heap.size → St w' b o z → (∀ q y, q + 32 ≤ o ∨ o + 32 ≤ q → St w b q y → St w' b q y) → wpList Tryz.prog ops Q rest (a.put op.dst undef) w') : wpList Tryz.prog ops Q (op :: rest) a w :=
 wpList_store_mid hgd 69 x y ho b o (cellsS z) hx hy (by rw [cellsS_size]; exact fun j hj => ⟨by rw [hs.cell j hj]; rfl, hs.free j hj⟩) (by rw [Tryz.info69, cellsS_size]) (cellsS_one z)
  (h _ (setCells_but b _ _ _).1 (setCells_but b _ _ _).2 (setCells_st hs hz) (fun q y hq hs' => setCells_apart hs' (by omega)))
theorem Tryz.infoS : (Tryz.prog.info? 69).map (fun i => (i.zero, i.size, i.bytes)) = some (some (.agg (cellsS (fun _ => 0))), 32, 256) := by kernel_rfl
theorem made_ls (w : World) (n : Nat) : Ls (w.alloc (.cells (madeCells (cellsS (fun _ => 0)) (n * 32)) 69)) w.heap.size n (fun _ _ => 0) := by
 intro i hi
 have hb : (w.alloc (.cells (madeCells (cellsS (fun _ => 0)) (n * 32)) 69)).heap[w.heap.size]? = some (.cells (madeCells (cellsS (fun _ => 0)) (n * 32)) 69) := Go.Deep.blk_alloc_new _ _
 refine ⟨fun j hj => cell_of_cells hb ?_, fun j hj => by unfold World.frozen?; rw [hb]; simp, fun _ _ => (by decide : 0 < 18446744073709551616)⟩
 have h1 : i * 32 + j < n * 32 := by omega
 have h2 : (i * 32 + j) % 32 = j := by omega
 have h3 := cellsS_at (fun _ => 0) j hj
 unfold madeCells
 rw [Array.getElem?_map, Array.getElem?_range]
 simp only [h1, if_true, Option.map_some, cellsS_size, h2]
 rw [getElem!_def, h3]
set_option maxHeartbeats 1000000 in
theorem setsOf_any (ga : Option Addr) (G gc : Nat) (L : Nat → Nat) (Z : Nat → Nat → Int) (w : World) (hG : G ≤ 2048) (hL : ∀ r, r < G → L r ≤ 140737488355328) (h : Gr w ga G L Z) (hZ : ∀ r, r < G → ∀ i, i < L r → 0 ≤ Z r i ∧ Z r i < 2048) :
  Calls Tryz.prog 25 #[.slice ga G gc] w fun e w' => e = .returned (.slice (some ⟨w.heap.size, 0, none⟩) G G) ∧ Ls w' w.heap.size G (fun r => ofL (Z r) (L r)) ∧ Below w.heap.size w w' ∧ w.heap.size < w'.heap.size := by
 obtain ⟨b, o, ha, hc⟩ := h
 have HC : Hid (∀ r, r < G → ∃ a c, w.cell? ⟨b, o + r, none⟩ = some (.slice a (L r) c) ∧ Row w a (L r) (Z r)) := hc
 have HL : Hid (∀ r, r < G → L r ≤ 140737488355328) := hL
 have HZ : Hid (∀ r, r < G → ∀ i, i < L r → 0 ≤ Z r i ∧ Z r i < 2048) := hZ
 clear hc hL hZ
 obtain ⟨i0, hi, hz0, hz1, hz2⟩ := info_parts Tryz.infoS
 have hmk : (Instr.makeSlice 64 (.int .i64 (G : Int)) (.int .i64 (G : Int))).run Tryz.prog w = .ok (.slice (some ⟨w.heap.size, 0, none⟩) G G) (w.alloc (.cells (madeCells (cellsS (fun _ => 0)) (G * 32)) 69)) := by
  have := run_make (P := Tryz.prog) w 64 69 i0 (.agg (cellsS (fun _ => 0))) Tryz.underlying64 hi hz0 .i64 .i64 G G (by omega) (by omega) (by rw [hz2]; omega) (by omega)
  rw [hz1] at this
  simpa [Value.cells] using this
 clear hi hz0 hz1 hz2
 go_enter Tryz.func25, Tryz.ntmps25
 go_wp2
 clear hmk
 go_loopw [11] (fun i wr => ∃ k : Nat, k ≤ G ∧ i = .int .i64 k ∧ Hid ((Below w.heap.size w wr ∧ w.heap.size < wr.heap.size) ∧ Ls wr w.heap.size G (fun r => if r < k then ofL (Z r) (L r) else fun _ => 0))) (fun i _ => G - (intOf i).toNat)
 case atStart => exact ⟨0, by omega, rfl, hid ⟨⟨box_below _ _, by simp⟩, (made_ls w G).congr (fun r _ j _ => by rw [if_neg (by omega)])⟩⟩
 case round =>
  obtain ⟨k, hk, rfl, H⟩ := hrel
  by_cases hlt : k < G
  ·obtain rfl := ha (by omega)
   obtain ⟨a, c, hck0, hrow0⟩ := HC.out k hlt
   have hck : wr.cell? ⟨b, o + k, none⟩ = some (.slice a (L k) c) := below_cell H.out.1.1 jq0 hck0
   have C := hid (setOf_any a (L k) c (Z k) wr (HL.out k hlt) (hrow0.below H.out.1.1) (HZ.out k hlt))
   clear hck0 hrow0
   go_wp2_with fail
   refine C.out.mono ?_
   rintro e w' ⟨rfl, hb1⟩
   have HB := hid hb1
   clear hb1
   have hst : Hid (St w' w.heap.size (k * 32) (fun _ => 0)) := by
    have := (H.out.2 k hlt).below' HB.out
    dsimp only at this
    rw [if_neg (Nat.lt_irrefl _)] at this
    exact this
   go_wp2_with (refine wl_store' rfl _ _ rfl w.heap.size (k * 32) (ofL (Z k) (L k)) rfl rfl _ hst.out (ofL_small (HZ.out k hlt)) ?_; intro w1 hb1 hs1 hx1 hy1; have G1 := hid (And.intro hb1 (And.intro hx1 hy1)); clear hb1 hx1 hy1)
   go_roundw
   case rel =>
    refine ⟨k + 1, by omega, by go_num, hid ⟨?_, ?_⟩⟩
    ·refine ⟨?_, by have := H.out.1.2; have := HB.out.size; have := G1.out.1.size; omega⟩
     exact (H.out.1.1.trans (HB.out.mono H.out.1.1.size)).trans (G1.out.1.below jq0 (Nat.le_trans H.out.1.1.size HB.out.size))
    ·intro j hj
     by_cases e : j = k
     ·subst e
      dsimp only
      rw [if_pos (by omega)]
      exact G1.out.2.1
     ·have h1 := G1.out.2.2 (j * 32) _ (by omega) ((H.out.2 j hj).below' HB.out)
      dsimp only at h1 ⊢
      by_cases e2 : j < k
      ·rw [if_pos e2] at h1
       rw [if_pos (by omega)]; exact h1
      ·rw [if_neg e2] at h1
       rw [if_neg (by omega)]; exact h1
   case measure => simp [intOf]; omega
  ·go_wp2
   go_ret
   exact ⟨rfl, H.out.2.congr (fun r hr j _ => by rw [if_pos (by omega)]), H.out.1.1, H.out.1.2⟩
end Go.Proofs.YtmdpbaobihdgkaaGreatDoor
