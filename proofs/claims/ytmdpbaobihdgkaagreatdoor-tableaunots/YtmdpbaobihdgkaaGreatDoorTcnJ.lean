/-    -/
import Derived.Test.YtmdpbaobihdgkaaGreatDoorAAutJ
/- tableau: Clone of a list of numbers. -/
/- The automata of pairs and of one fair set, as they are numbered: pure. -/
/- Lists without what comes again; all states. -/
namespace Go.Proofs.YtmdpbaobihdgkaaGreatDoor
open Go.RowKit
theorem cloneI_post {w w1 : World} {v' : Value} {n : Nat} {l : List Value} (hown : w1.ownsRow w.heap.size 3 1 v' (0 + n) ([] ++ l)) (hgrow : (w.alloc (.cells #[] 3)).grownBy w1 (Value.ownBlock (.slice (some ⟨w.heap.size, 0, none⟩) 0 0))) :
  Hid (w1.ownsRow w.heap.size 3 1 v' n l ∧ Below w.heap.size w w1) := by
 refine ⟨by rwa [Nat.zero_add, List.nil_append] at hown, ((Below.refl _ _).alloc jq0 _).grown hgrow (by simp) (fun k hk => ?_)⟩
 simp only [Value.ownBlock, Option.some.injEq] at hk
 omega
set_option maxHeartbeats 400000 in
theorem cloneL_any {base : Nat} {v : Value} {l : List Int} (w : World) (h : w.ownsRow base 3 1 v l.length (vals l)) (hl : l.length ≤ 1024) :
  Calls Tryz.prog 59 #[v] w fun e w' => ∃ v', e = .returned v' ∧ Hid (w'.ownsRow w.heap.size 3 1 v' l.length (vals l) ∧ Below w.heap.size w w') := by
 rcases h.2 with ⟨rfl, h0⟩ | ⟨g, cap, cur, rfl, hb, hg, _⟩
 ·have hq := fun w' => Go.Lib.run_eql_slice_nil (P := Tryz.prog) w' 29 3 none 0 0 0 0 Tryz.underlying29
  obtain rfl : l = [] := List.length_eq_zero_iff.1 h0
  clear h h0 hl
  go_enter Tryz.func59, Tryz.ntmps59
  go_wp2
  go_ret
  exact ⟨_, rfl, hid ⟨World.ownsRow_nil _ _ _ _, Below.refl _ _⟩⟩
 ·obtain ⟨i0, hi, hz0, hz1, hz2⟩ := info3_parts
  have HI : Hid (Tryz.prog.info? 3 = some i0 ∧ i0.zero = some (.int .i64 0) ∧ i0.size = 1 ∧ i0.bytes = 8) := ⟨hi, hz0, hz1, hz2⟩
  have HO : Hid ((w.alloc (.cells #[] 3)).ownsRow w.heap.size 3 1 (.slice (some ⟨w.heap.size, 0, none⟩) 0 0) 0 []) := World.ownsRow_made w #[] 0 jq0 (Nat.zero_le _) rfl
  have HN : Hid (∀ j u, (vals l)[j]? = some u → (w.alloc (.cells #[] 3)).cell? ((⟨g, 0, none⟩ : Addr).add j) = some u) := hid (fun j u hj => below_cell ((Below.refl _ _).alloc jq0 _) jq0 (h.cells (g := g) rfl j u hj))
  have hvl : (vals l).length = l.length := by simp [vals]
  have HV := hid hvl
  generalize hn : l.length = n at *
  clear hi hz0 hz1 hz2 h hb hg hvl
  have hq := fun w' => Go.Lib.run_eql_slice_nil (P := Tryz.prog) w' 29 3 (some ⟨g, 0, none⟩) n cap 0 0 Tryz.underlying29
  go_enter Tryz.func59, Tryz.ntmps59
  go_wp2_with (at_builtin; refine wpList_append_own _ rfl _ _ 29 rfl w.heap.size 3 i0 (.int .i64 0) 1 8 Tryz.underlying29 HI.out.1 HI.out.2.1 HI.out.2.2.1 HI.out.2.2.2 rfl (by decide) _ _ _ rfl HO.out ⟨g, 0, none⟩ n cap (vals l) rfl (by rw [HV.out, Nat.mul_one]) HN.out (ints_oneCell .i64 l) (by unfold maxLen; omega) (by omega) (by simp) ?_; intro v' w1 hown' hgrow _; have HX := cloneI_post hown' hgrow; clear hown' hgrow)
  go_ret
  exact ⟨_, rfl, HX⟩
end Go.Proofs.YtmdpbaobihdgkaaGreatDoor
namespace Go.Proofs.YtmdpbaobihdgkaaGreatDoor
open Go.RowKit
def crs (ok : Nat → Nat → Bool) (l k : List Nat) : List (Nat × Nat) := l.flatMap fun x => (k.filter fun y => ok x y).map fun y => (x, y)
theorem mem_crs {ok : Nat → Nat → Bool} {l k : List Nat} {x y : Nat} : (x, y) ∈ crs ok l k ↔ x ∈ l ∧ y ∈ k ∧ ok x y = true := by
 unfold crs
 rw [List.mem_flatMap]
 constructor
 ·rintro ⟨x', hx, h⟩
  obtain ⟨y', hy, he⟩ := List.mem_map.1 h
  obtain ⟨h1, h2⟩ := List.mem_filter.1 hy
  cases he
  exact ⟨hx, h1, h2⟩
 ·rintro ⟨h1, h2, h3⟩
  exact ⟨x, h1, List.mem_map.2 ⟨y, List.mem_filter.2 ⟨h2, h3⟩, rfl⟩⟩
def nAt (L : List (Nat × Nat)) (i : Nat) : Nat × Nat := L.getD i (0, 0)
theorem nAt_ix {L : List (Nat × Nat)} {x : Nat × Nat} (h : x ∈ L) : nAt L (ix x L) = x := by
 unfold nAt
 rw [List.getD_eq_getElem?_getD, ix_at h]
 rfl
theorem nAt_mem {L : List (Nat × Nat)} {i : Nat} (h : i < L.length) : nAt L i ∈ L := by
 unfold nAt
 rw [List.getD_eq_getElem?_getD, List.getElem?_eq_getElem h]
 exact List.getElem_mem h
theorem nums_at {L xs : List (Nat × Nat)} (h : ∀ x ∈ xs, x ∈ L) {i : Nat} : i ∈ nNums L xs → i < L.length ∧ nAt L i ∈ xs := by
 intro hi
 obtain ⟨x, hx, rfl⟩ := mem_nNums.1 hi
 exact ⟨ix_lt (h x hx), by rw [nAt_ix (h x hx)]; exact hx⟩
def bNx (ok : Nat → Nat → Bool) (aN bN : Nat → List Nat) (p : Nat × Nat) : List (Nat × Nat) := crs ok (aN p.1) (bN p.2)
theorem both_pairs {a b c : Atm} {ok : Nat → Nat → Bool} {aS bS : List Nat} {aN bN : Nat → List Nat} {f : Nat} {L : List (Nat × Nat)} (hL : L = nAll (bNx ok aN bN) f (crs ok aS bS)) (hf : L.length ≤ f)
  (haS : ∀ x, a.st x ↔ x ∈ aS) (hbS : ∀ x, b.st x ↔ x ∈ bS) (haN : ∀ x y, a.nx x y ↔ y ∈ aN x) (hbN : ∀ x y, b.nx x y ↔ y ∈ bN x) (hok : ∀ x y l, a.lt x l → b.lt y l → ok x y = true)
  (hcS : ∀ i, c.st i ↔ i ∈ nNums L (crs ok aS bS)) (hcN : ∀ i j, c.nx i j ↔ i < L.length ∧ j ∈ nNums L (bNx ok aN bN (nAt L i)))
  (hcl : ∀ i l, c.lt i l ↔ (a.lt (nAt L i).1 l ∧ b.lt (nAt L i).2 l)) (hK : c.K = a.K + b.K) (hf1 : ∀ k, k < a.K → ∀ i, i < L.length → (c.fr k i ↔ a.fr k (nAt L i).1)) (hf2 : ∀ k, k < b.K → ∀ i, i < L.length → (c.fr (a.K + k) i ↔ b.fr k (nAt L i).2)) :
  Pairs a b c (nAt L) L.length := by
 have hs : ∀ x ∈ crs ok aS bS, x ∈ L := fun x hx => by rw [hL]; exact nAll_start hx
 have hn : ∀ i, i < L.length → ∀ x ∈ bNx ok aN bN (nAt L i), x ∈ L := fun i hi x hx => by
  have h1 := nAt_mem hi
  rw [hL] at h1 hf ⊢
  exact nAll_next hf h1 (by rw [← hL] at *; exact hx)
 refine ⟨fun i hi => ?_, fun x y l h1 h2 h3 h4 => ?_, fun i j hij => ?_, fun i hi x y l h1 h2 h3 h4 => ?_, hcl, hK, hf1, hf2, fun i hi => ?_, fun i j hij => ?_⟩
 ·obtain ⟨_, h2⟩ := nums_at hs ((hcS i).1 hi)
  obtain ⟨h3, h4, _⟩ := mem_crs.1 h2
  exact ⟨(haS _).2 h3, (hbS _).2 h4⟩
 ·have hm : (x, y) ∈ crs ok aS bS := mem_crs.2 ⟨(haS x).1 h1, (hbS y).1 h2, hok x y l h3 h4⟩
  exact ⟨ix (x, y) L, ix_lt (hs _ hm), (hcS _).2 (mem_nNums.2 ⟨_, hm, rfl⟩), nAt_ix (hs _ hm)⟩
 ·obtain ⟨hi, hj⟩ := (hcN i j).1 hij
  obtain ⟨_, h2⟩ := nums_at (hn i hi) hj
  obtain ⟨h3, h4, _⟩ := mem_crs.1 h2
  exact ⟨(haN _ _).2 h3, (hbN _ _).2 h4⟩
 ·have hm : (x, y) ∈ bNx ok aN bN (nAt L i) := mem_crs.2 ⟨(haN _ _).1 h1, (hbN _ _).1 h2, hok x y l h3 h4⟩
  exact ⟨ix (x, y) L, ix_lt (hn i hi _ hm), (hcN _ _).2 ⟨hi, mem_nNums.2 ⟨_, hm, rfl⟩⟩, nAt_ix (hn i hi _ hm)⟩
 ·exact (nums_at hs ((hcS i).1 hi)).1
 ·obtain ⟨hi, hj⟩ := (hcN i j).1 hij
  exact (nums_at (hn i hi) hj).1
end Go.Proofs.YtmdpbaobihdgkaaGreatDoor
namespace Go.Proofs.YtmdpbaobihdgkaaGreatDoor
open Go.RowKit
def cs (l : List Nat) : List Int := l.map (fun s : Nat => (s : Int))
theorem cs_len (l : List Nat) : (cs l).length = l.length := by simp [cs]
theorem cs_snoc (l : List Nat) (x : Nat) : cs (l ++ [x]) = cs l ++ [(x : Int)] := by simp [cs]
theorem cs_at (l : List Nat) (i : Nat) : (cs l).getD i 0 = ((l.getD i 0 : Nat) : Int) := by
 unfold cs
 rw [List.getD_eq_getElem?_getD, List.getD_eq_getElem?_getD, List.getElem?_map]
 cases l[i]? <;> simp
def onN (Z : Nat → Int) (k : Nat) : List Nat := nAdds [] ((List.range k).map fun i => (Z i).toNat)
theorem onN_succ (Z : Nat → Int) (k : Nat) : onN Z (k + 1) = nAdd (onN Z k) (Z k).toNat := by
 unfold onN
 rw [List.range_succ, List.map_append]
 exact nAdds_snoc _ _ _
theorem mem_onN {Z : Nat → Int} {k x : Nat} : x ∈ onN Z k ↔ ∃ i, i < k ∧ (Z i).toNat = x := by
 unfold onN
 rw [mem_nAdds, List.mem_map]
 simp
theorem onN_nodup (Z : Nat → Int) (k : Nat) : (onN Z k).Nodup := nAdds_nodup _ List.nodup_nil
theorem onN_lt {Z : Nat → Int} {k : Nat} (h : ∀ i, i < k → 0 ≤ Z i ∧ Z i < 2048) : ∀ x ∈ onN Z k, x < 2048 := by
 intro x hx
 obtain ⟨i, hi, rfl⟩ := mem_onN.1 hx
 have := h i hi
 omega
theorem onN_len {Z : Nat → Int} {k : Nat} (h : ∀ i, i < k → 0 ≤ Z i ∧ Z i < 2048) : (onN Z k).length ≤ 2048 := by
 have := nodup_le (U := List.range 2048) (onN_nodup Z k) (fun x hx => List.mem_range.2 (onN_lt h x hx))
 simpa using this
theorem owns_mono {w : World} {b c : Nat} {e : TypeId} {size : Nat} {v : Value} {n : Nat} {xs : List Value} (h : w.ownsRow b e size v n xs) (hc : c ≤ b) : w.ownsRow c e size v n xs :=
 ⟨h.1, h.2.imp id (fun ⟨g, cap, cur, e, hb, r⟩ => ⟨g, cap, cur, e, Nat.le_trans hc hb, r⟩)⟩
theorem ints_grow {w wr w1 : World} {base : Nat} {v v' : Value} {l : List Int} {x : Int} {o : Obj} (hb : Below w.heap.size w wr) (hbase : w.heap.size ≤ base) (ho : wr.ownsRow base 3 1 v l.length (vals l))
  (hown : w1.ownsRow base 3 1 v' (l.length + 1) (vals l ++ [.int .i64 x])) (hgrow : (wr.alloc o).grownBy w1 v.ownBlock) :
  Below w.heap.size w w1 ∧ w1.ownsRow base 3 1 v' (l ++ [x]).length (vals (l ++ [x])) ∧ ∀ b, b < base → b < wr.heap.size → w1.heap[b]? = wr.heap[b]? := by
 have hg := (World.grownBy_alloc wr o v.ownBlock).trans hgrow
 refine ⟨hb.grown hg hb.size (fun k hk => Nat.le_trans hbase (ho.lt k hk).1), ?_, fun b h1 h2 => hg.block b h2 (fun e => by have := (ho.lt b e.symm).1; omega)⟩
 have : (l ++ [x]).length = l.length + 1 := by simp
 rw [this, ← vals_snoc]
 exact hown
theorem Bx.of_block {w w' : World} {b : Nat} {x : Nat → Nat} (h : Bx w b x) (e : w'.heap[b]? = w.heap[b]?) : Bx w' b x := ⟨by rw [e]; exact h.blk, h.small⟩
set_option maxHeartbeats 2000000 in
theorem once_any (a : Option Addr) (n c : Nat) (Z : Nat → Int) (w : World) (hn : n ≤ 140737488355328) (h : Row w a n Z) (hZ : ∀ i, i < n → 0 ≤ Z i ∧ Z i < 2048) :
  Calls Tryz.prog 35 #[.slice a n c] w fun e w' => ∃ v, e = .returned v ∧ w'.ownsRow (w.heap.size + 1) 3 1 v (cs (onN Z n)).length (vals (cs (onN Z n))) ∧ Below w.heap.size w w' ∧ w.heap.size < w'.heap.size := by
 obtain ⟨b, o, ha, hc⟩ := h
 have HC : Hid (∀ i, i < n → w.cell? ⟨b, o + i, none⟩ = some (.int .i64 (Z i))) := hc
 have HZ := hid hZ
 clear hc hZ
 obtain ⟨i0, hi, hz0, hz1, hz2⟩ := info_parts Tryz.info3
 have HI : Hid (Tryz.prog.info? 3 = some i0 ∧ i0.zero = some (.int .i64 0) ∧ i0.size = 1 ∧ i0.bytes = 8) := ⟨hi, hz0, hz1, hz2⟩
 clear hi hz0 hz1 hz2
 go_enter Tryz.func35, Tryz.ntmps35
 go_wp2
 rw [zeroS]
 go_loopw [4, 9] (fun v i wr => ∃ (k : Nat) (x : Nat → Nat), k ≤ n ∧ i = .int .i64 k ∧ Hid (Below w.heap.size w wr ∧ Bx wr w.heap.size x ∧ (∀ s, s < 2048 → mem x s = decide (s ∈ onN Z k)) ∧ wr.ownsRow (w.heap.size + 1) 3 1 v (cs (onN Z k)).length (vals (cs (onN Z k))))) (fun _ i _ => n - (intOf i).toNat)
 case atStart => exact ⟨0, fun _ => 0, by omega, rfl, hid ⟨box_below _ _, bx_new w _ (fun _ _ => (by decide : 0 < 18446744073709551616)), fun s _ => by simp [mem_zero, onN, nAdds], World.ownsRow_nil _ _ _ _⟩⟩
 case round =>
  rename_i v _
  obtain ⟨k, x, hk, rfl, H⟩ := hrel
  by_cases hlt : k < n
  ·obtain rfl := ha (by omega)
   obtain ⟨z, hz⟩ : ∃ z : Nat, Z k = z := ⟨(Z k).toNat, by have := HZ.out k hlt; omega⟩
   have hz2 : z < 2048 := by have := HZ.out k hlt; omega
   have h1 : wr.cell? ⟨b, o + k, none⟩ = some (.int .i64 z) := by rw [← hz]; exact below_cell H.out.1 jq0 (HC.out k hlt)
   have e1 : Hid (onN Z (k + 1) = nAdd (onN Z k) z) := hid (by rw [onN_succ, hz]; rfl)
   have CH := hid (has_any w.heap.size 0 x z wr hz2 H.out.2.1.st)
   have CA := hid (addB w.heap.size x z wr hz2 H.out.2.1)
   have HM := hid (H.out.2.2.1 z hz2)
   have hlen : (cs (onN Z k)).length ≤ 2048 := by rw [cs_len]; exact onN_len (fun i hi => HZ.out i (by omega))
   clear hz
   cases hm : mem x z
   ·rw [hm] at CH HM
    clear hm
    go_wp2_with fail
    refine CH.out.mono ?_
    rintro e w' ⟨rfl, rfl⟩
    go_wp2_with fail
    refine CA.out.mono ?_
    rintro e w2 ⟨⟨v0, rfl⟩, h2, h3, h4⟩
    have HH := hid (And.intro h2 h3)
    have HO := hid (owns_but H.out.2.2.2 h3 (Nat.lt_succ_self _))
    have HB := hid (H.out.1.trans (h3.below jq0 H.out.1.size))
    have hsz : w.heap.size + 1 ≤ w2.heap.size := by have := bx_lt h2; omega
    clear h2 h3 h4 h1
    go_wp2_with (at_builtin; refine wpList_append_own_at _ rfl _ _ 29 rfl (w.heap.size + 1) 3 i0 (.int .i64 0) 1 8 Tryz.underlying29 HI.out.1 HI.out.2.1 HI.out.2.2.1 HI.out.2.2.2 rfl (by decide) _ _ _ rfl (HO.out.alloc _) ⟨w2.heap.size, 0, none⟩ 1 1 [.int .i64 (z : Int)] rfl rfl (cell_one_new _ _ _) (ints_oneCell .i64 [(z : Int)]) (by unfold maxLen; omega) (by omega) (by simp; omega) ?_; intro v' w3 hown' hgrow hnil hloc; have G := hid (ints_grow HB.out (Nat.le_succ _) HO.out hown' hgrow); clear hown' hgrow hnil hloc)
    go_roundw
    case rel =>
     have hnew : z ∉ onN Z k := by simpa using HM.out
     have e2 : onN Z (k + 1) = onN Z k ++ [z] := by rw [e1.out, nAdd, if_neg hnew]
     refine ⟨k + 1, sadd x z, by omega, by go_num, hid ⟨G.out.1, HH.out.1.of_block (G.out.2.2 _ (Nat.lt_succ_self _) hsz), fun s hs => ?_, ?_⟩⟩
     ·rw [mem_add, H.out.2.2.1 s hs, e2, Bool.eq_iff_iff]
      simp [or_comm]
     ·rw [e2, cs_snoc]
      exact G.out.2.1
    case measure => simp [intOf]; omega
   ·rw [hm] at CH HM
    clear hm
    go_wp2_with fail
    refine CH.out.mono ?_
    rintro e w' ⟨rfl, rfl⟩
    go_wp2
    go_roundw
    case rel =>
     have hold : z ∈ onN Z k := by simpa using HM.out
     have e2 : onN Z (k + 1) = onN Z k := by rw [e1.out, nAdd, if_pos hold]
     exact ⟨k + 1, x, by omega, by go_num, hid ⟨H.out.1, H.out.2.1, fun s hs => by rw [e2]; exact H.out.2.2.1 s hs, by rw [e2]; exact H.out.2.2.2⟩⟩
    case measure => simp [intOf]; omega
  ·go_wp2
   go_ret
   obtain rfl : k = n := by omega
   exact ⟨_, rfl, H.out.2.2.2, H.out.1, bx_lt H.out.2.1⟩
theorem Fam.put {w wr w1 : World} {G : Nat} {T : Nat → List Int} {V : Nat → Value} {j : Nat} {l : List Int} {v' : Value} (h : Fam w wr G T V) (hj : j < G) (hb : Below wr.heap.size wr w1)
  (hown : w1.ownsRow (wr.heap.size + 1) 3 1 v' l.length (vals l)) :
  w1.cell? ⟨w.heap.size, j, none⟩ = some (V j) ∧ w1.frozen? ⟨w.heap.size, j, none⟩ = false ∧
  Fam w (w1.setCell ⟨w.heap.size, j, none⟩ v') G (fun i => if i = j then l else T i) (fun i => if i = j then v' else V i) := by
 have hsz := h.size
 have htop : w1.rowIs w.heap.size 29 G V := h.top.of_block (hb.block _ h.top.lt)
 refine ⟨htop.cell hj, htop.frozen j, ?_⟩
 refine ⟨?_, htop.set j v', fun i hi => ?_, fun i k hi hk hne b hb2 => ?_⟩
 ·exact (h.below.trans (hb.mono h.below.size)).setCell jq0 _
 ·by_cases e : i = j
  ·subst e
   simp only [if_true]
   exact ownsRow_setCell_below (owns_mono hown (by omega)) (by show w.heap.size < _; omega) _
  ·simp only [if_neg e]
   exact ownsRow_setCell_below (owns_below (h.own i hi) hb) (by show w.heap.size < _; omega) _
 ·have old : ∀ i, i < G → ∀ b, (V i).ownBlock = some b → b < wr.heap.size := fun i hi b hb => ((h.own i hi).lt b hb).2
  by_cases ei : i = j
  ·have ek : k ≠ j := fun e => hne (ei.trans e.symm)
   simp only [if_pos ei, if_neg ek] at hb2 ⊢
   intro hb3
   have h1 := (hown.lt b hb2).1
   have h2 := old k hk b hb3
   omega
  ·simp only [if_neg ei] at hb2 ⊢
   by_cases ek : k = j
   ·simp only [if_pos ek]
    intro hb3
    have h1 := (hown.lt b hb3).1
    have h2 := old i hi b hb2
    omega
   ·simp only [if_neg ek]
    exact h.apart i k hi hk hne b hb2
set_option maxHeartbeats 1000000 in
theorem eachOnce_any (ga : Option Addr) (G gc : Nat) (L : Nat → Nat) (Z : Nat → Nat → Int) (w : World) (hG : G ≤ 2048) (hL : ∀ r, r < G → L r ≤ 140737488355328) (h : Gr w ga G L Z) (hZ : ∀ r, r < G → ∀ i, i < L r → 0 ≤ Z r i ∧ Z r i < 2048) :
  Calls Tryz.prog 32 #[.slice ga G gc] w fun e w' => e = .returned (.slice (some ⟨w.heap.size, 0, none⟩) G G) ∧ ∃ V, Fam w w' G (fun r => cs (onN (Z r) (L r))) V := by
 have HL : Hid (∀ r, r < G → L r ≤ 140737488355328) := hL
 have HZ : Hid (∀ r, r < G → ∀ i, i < L r → 0 ≤ Z r i ∧ Z r i < 2048) := hZ
 obtain ⟨b, o, ha, hc⟩ := h
 have HC : Hid (∀ r, r < G → ∃ a c, w.cell? ⟨b, o + r, none⟩ = some (.slice a (L r) c) ∧ Row w a (L r) (Z r)) := hc
 clear hc hL hZ
 have hmk := run_make_row' (P := Tryz.prog) 30 29 (.slice none 0 0) 24 Tryz.underlying30 Tryz.info29 rfl .i64 .i64 G (by omega) (by omega)
 go_enter Tryz.func32, Tryz.ntmps32
 go_wp2
 clear hmk
 go_loopw [11] (fun i wr => ∃ r : Nat, r ≤ G ∧ i = .int .i64 r ∧ ∃ V, Fam w wr G (fun j => if j < r then cs (onN (Z j) (L j)) else []) V) (fun i _ => G - (intOf i).toNat)
 case atStart => exact ⟨0, Nat.zero_le _, rfl, _, fam_start w G _ (fun j _ => by rw [if_neg (by omega)])⟩
 case round =>
  obtain ⟨r, hr, rfl, V, hF⟩ := hrel
  have HF := hid hF
  clear hF
  by_cases hlt : r < G
  ·obtain rfl := ha (by omega)
   obtain ⟨a, c, hck0, hrow0⟩ := HC.out r hlt
   have hck : wr.cell? ⟨b, o + r, none⟩ = some (.slice a (L r) c) := below_cell HF.out.below jq0 hck0
   have C := hid (once_any a (L r) c (Z r) wr (HL.out r hlt) (hrow0.below HF.out.below) (HZ.out r hlt))
   clear hrow0 hck0 ha
   go_wp2_with fail
   refine C.out.mono ?_
   rintro e w1 ⟨v, rfl, hown, hb1, hs1⟩
   obtain ⟨a2, c2, rfl, hrow⟩ := owns_row hown
   obtain ⟨k1, k2, k3⟩ := HF.out.put hlt hb1 hown
   have HK := hid k3
   generalize V r = vr at k1
   clear hown hb1 hs1 hrow k3 hck
   go_wp2
   go_roundw
   case rel =>
    refine ⟨r + 1, by omega, by go_num, _, HK.out.congr (fun j _ => ?_)⟩
    by_cases e : j = r
    ·subst e; rw [if_pos rfl, if_pos (by omega)]
    ·rw [if_neg e]
     by_cases e2 : j < r
     ·rw [if_pos e2, if_pos (by omega)]
     ·rw [if_neg e2, if_neg (by omega)]
   case measure => simp [intOf]; omega
  ·go_wp2
   go_ret
   exact ⟨rfl, V, HF.out.congr (fun j hj => by rw [if_pos (by omega)])⟩
end Go.Proofs.YtmdpbaobihdgkaaGreatDoor
