
import Derived.Deep.WholeRow
import Derived.Deep.MidRow
import Derived.Test.YtmdpbaobihdgkaaGreatDoorATurn2J
/- Whole sets by value: loads, stores; meet. -/
namespace Go.Proofs.YtmdpbaobihdgkaaGreatDoor
open Go.RowKit
def cellsS (x : Nat → Nat) : Array Value := ((List.range 32).map fun i => Value.int .u64 (x i : Nat)).toArray
theorem cellsS_at (x : Nat → Nat) (i : Nat) (h : i < 32) : (cellsS x)[i]? = some (.int .u64 (x i : Nat)) := by
 unfold cellsS
 rw [List.getElem?_toArray, List.getElem?_map, List.getElem?_range h]
 rfl
theorem cellsS_size (x : Nat → Nat) : (cellsS x).size = 32 := by simp [cellsS]
structure Bx (w : World) (b : Nat) (x : Nat → Nat) : Prop where
 blk : w.heap[b]? = some (.cells (cellsS x) 69)
 small : ∀ i, i < 32 → x i < 18446744073709551616
theorem Bx.st {w : World} {b : Nat} {x : Nat → Nat} (h : Bx w b x) : St w b 0 x :=
 ⟨fun i hi => by rw [Nat.zero_add]; exact cell_of_cells h.blk (cellsS_at x i hi), fun i _ => by simp [World.frozen?, h.blk], h.small⟩
theorem cellsS_upd (x : Nat → Nat) (i v : Nat) (h : i < 32) : (cellsS x).setIfInBounds i (.int .u64 (v : Nat)) = cellsS (upd x i v) := by
 apply Array.ext_getElem?
 intro j
 rw [Array.getElem?_setIfInBounds]
 by_cases hj : j < 32
 ·rw [cellsS_at _ j hj]
  by_cases e : i = j
  ·subst e
   rw [if_pos rfl, if_pos (by rw [cellsS_size]; exact h), cellsS_at _ _ hj]
   simp [upd]
  ·have e' : ¬ j = i := fun k => e k.symm
   rw [if_neg e, cellsS_at _ j hj]
   simp [upd, e']
 ·have e : ¬ i = j := by omega
  rw [if_neg e, Array.getElem?_eq_none (by rw [cellsS_size]; omega), Array.getElem?_eq_none (by rw [cellsS_size]; omega)]
theorem blk_setCell {w : World} {b i : Nat} {c : Array Value} {t : TypeId} {z : Nat × Nat} {v : Value} (h : w.heap[b]? = some (.cells c t z)) : (w.setCell ⟨b, i, none⟩ v).heap[b]? = some (.cells (c.setIfInBounds i v) t z) := by
 simp [World.setCell, Array.getElem?_modify, h]
theorem upd_small {x : Nat → Nat} {i v : Nat} (h : ∀ i, i < 32 → x i < 18446744073709551616) (hv : v < 18446744073709551616) : ∀ j, j < 32 → upd x i v j < 18446744073709551616 := by
 intro j hj
 unfold upd
 split
 ·exact hv
 ·exact h j hj
theorem Bx.set {w : World} {b : Nat} {x : Nat → Nat} (h : Bx w b x) {i v : Nat} (hi : i < 32) (hv : v < 18446744073709551616) : Bx (w.setCell ⟨b, i, none⟩ (.int .u64 (v : Nat))) b (upd x i v) :=
 ⟨by rw [blk_setCell h.blk, cellsS_upd x i v hi], upd_small h.small hv⟩
theorem Bx.drew {w : World} {b : Nat} {x : Nat → Nat} (h : Bx w b x) : Bx w.drew b x := ⟨h.blk, h.small⟩
theorem Bx.congr {w : World} {b : Nat} {x y : Nat → Nat} (h : Bx w b x) (e : ∀ i, i < 32 → x i = y i) : Bx w b y := by
 have : cellsS x = cellsS y := by
  unfold cellsS
  congr 1
  exact List.map_congr_left (fun i hi => by rw [e i (List.mem_range.1 hi)])
 exact ⟨by rw [← this]; exact h.blk, fun i hi => by rw [← e i hi]; exact h.small i hi⟩
theorem bx_new (w : World) (x : Nat → Nat) (h : ∀ i, i < 32 → x i < 18446744073709551616) : Bx (w.alloc (.cells (cellsS x) 69)) w.heap.size x := ⟨Go.Deep.blk_alloc_new _ _, h⟩
theorem Bx.below {w w' : World} {b B : Nat} {x : Nat → Nat} (h : Bx w b x) (hb : Below B w w') (hB : b < B) : Bx w' b x := ⟨by rw [hb.block b hB]; exact h.blk, h.small⟩
theorem Bx.but {w w' : World} {b c : Nat} {x : Nat → Nat} (h : Bx w b x) (hb : But c w w') (hB : b ≠ c) : Bx w' b x := ⟨by rw [hb.block b (jq4.1 h.blk).1 hB]; exact h.blk, h.small⟩
theorem zeroS : (#[.int .u64 0, .int .u64 0, .int .u64 0, .int .u64 0, .int .u64 0, .int .u64 0, .int .u64 0, .int .u64 0, .int .u64 0, .int .u64 0, .int .u64 0, .int .u64 0, .int .u64 0, .int .u64 0, .int .u64 0, .int .u64 0, .int .u64 0, .int .u64 0, .int .u64 0, .int .u64 0, .int .u64 0, .int .u64 0, .int .u64 0, .int .u64 0, .int .u64 0, .int .u64 0, .int .u64 0, .int .u64 0, .int .u64 0, .int .u64 0, .int .u64 0, .int .u64 0] : Array Value) = cellsS (fun _ => 0) := rfl
theorem Tryz.info69 : (Tryz.prog.info? 69).map (·.size) = some 32 := by kernel_rfl
theorem St.range {w : World} {b o : Nat} {x : Nat → Nat} (h : St w b o x) : w.rangeAt b o (cellsS x).toList := by
 intro j v hv
 have hj : j < 32 := by
  have := (List.getElem?_eq_some_iff.1 hv).1
  simpa [cellsS_size] using this
 rw [h.cell j hj, ← cellsS_at x j hj]
 simpa using hv
theorem cellsS_one (x : Nat → Nat) : (cellsS x).all (·.oneCell') = true := by
 rw [Array.all_eq_true_iff_forall_mem]
 intro v hv
 simp only [cellsS, List.mem_toArray, List.mem_map] at hv
 obtain ⟨i, _, rfl⟩ := hv
 rfl
theorem wl_load {ops : Array Oper} {rest : List Oper} {op : Oper} {a : Act} {w : World} {Q : Exit → Act → World → Prop} (hgd : op.guard = none) (x : Operand) (ho : op.op = .load 69 x)
  (b o : Nat) (hx : a.eval x = .pointer (some ⟨b, o, none⟩)) (y : Nat → Nat) (hs : St w b o y)
  (h : wpList Tryz.prog ops Q rest (a.put op.dst (.agg (cellsS y))) w) : wpList Tryz.prog ops Q (op :: rest) a w :=
 wpList_load_mid hgd 69 x ho b o hx (cellsS y).toList _ hs.range Tryz.underlying69 rfl (by rw [Tryz.info69]; simp [cellsS_size]) (by simpa using h)
theorem setCells_blk {w : World} {b : Nat} {x y : Nat → Nat} (h : Bx w b x) (hy : ∀ i, i < 32 → y i < 18446744073709551616) : Bx (w.setCells b 0 (cellsS y).toList) b y := by
 have h1 : ∀ (l : List Value) (o : Nat) (w : World) (c : Array Value), w.heap[b]? = some (.cells c 69) → o + l.length ≤ c.size → ∃ c', (w.setCells b o l).heap[b]? = some (.cells c' 69) ∧ c'.size = c.size ∧ (∀ j, j < l.length → c'[o + j]? = l[j]?) ∧ ∀ j, j < o → c'[j]? = c[j]? := by
  intro l
  induction l with
  | nil => intro o w c hc _; exact ⟨c, hc, rfl, fun j hj => absurd hj (Nat.not_lt_zero _), fun _ _ => rfl⟩
  | cons v l ih =>
   intro o w c hc hl
   simp only [List.length_cons] at hl
   obtain ⟨c', h1, h2, h3, h4⟩ := ih (o + 1) (w.setCell ⟨b, o, none⟩ v) (c.setIfInBounds o v) (blk_setCell hc) (by simp; omega)
   refine ⟨c', by rw [World.setCells]; exact h1, by rw [h2]; simp, fun j hj => ?_, fun j hj => ?_⟩
   ·cases j with
    | zero => rw [Nat.add_zero, h4 o (by omega), Array.getElem?_setIfInBounds, if_pos rfl, if_pos (by omega)]; rfl
    | succ j =>
     have := h3 j (by simpa using hj)
     rw [show o + (j + 1) = o + 1 + j by omega, this]; rfl
   ·rw [h4 j (by omega), Array.getElem?_setIfInBounds, if_neg (by omega)]
 obtain ⟨c', h2, h3, h4, _⟩ := h1 (cellsS y).toList 0 w (cellsS x) h.blk (by simp [cellsS_size])
 have e : c' = cellsS y := by
  apply Array.ext_getElem?
  intro j
  by_cases hj : j < 32
  ·have := h4 j (by simpa [cellsS_size] using hj)
   rw [Nat.zero_add] at this
   rw [this]; simp
  ·rw [Array.getElem?_eq_none (by rw [h3, cellsS_size]; omega), Array.getElem?_eq_none (by rw [cellsS_size]; omega)]
 exact ⟨by rw [h2, e], hy⟩
theorem setCells_but (b : Nat) : ∀ (l : List Value) (o : Nat) (w : World), But b w (w.setCells b o l) ∧ (w.setCells b o l).heap.size = w.heap.size
 | [], _, w => ⟨But.refl _ _, rfl⟩
 | v :: l, o, w => by
  have h := setCells_but b l (o + 1) (w.setCell ⟨b, o, none⟩ v)
  rw [World.setCells]
  exact ⟨((But.refl b w).setCell o v).trans h.1, by rw [h.2]; simp [World.setCell]⟩
theorem Bx.there {w : World} {b : Nat} {x : Nat → Nat} (h : Bx w b x) : w.there b 0 32 := fun j hj => ⟨by rw [h.st.cell j hj]; rfl, h.st.free j hj⟩
theorem wl_store {ops : Array Oper} {rest : List Oper} {op : Oper} {a : Act} {w : World} {Q : Exit → Act → World → Prop} (hgd : op.guard = none) (x y : Operand) (ho : op.op = .store 69 x y)
  (b : Nat) (z : Nat → Nat) (hx : a.eval x = .pointer (some ⟨b, 0, none⟩)) (hy : a.eval y = .agg (cellsS z)) (z0 : Nat → Nat) (hs : Bx w b z0) (hz : ∀ i, i < 32 → z i < 18446744073709551616)
  (h : ∀ w', But b w w' → w'.heap.size = w.heap.size → Bx w' b z → wpList Tryz.prog ops Q rest (a.put op.dst undef) w') : wpList Tryz.prog ops Q (op :: rest) a w :=
 wpList_store_mid hgd 69 x y ho b 0 (cellsS z) hx hy (by rw [cellsS_size]; exact hs.there) (by rw [Tryz.info69, cellsS_size]) (cellsS_one z)
  (h _ (setCells_but b _ _ _).1 (setCells_but b _ _ _).2 (setCells_blk hs hz))
theorem res_set {fn : Func} {t : Tmp} (hf : fn.results = #[.cell t 69]) {tmps : Array Value} {w : World} {b : Nat} {z : Nat → Nat} (ht : tmps.getD t undef = .pointer (some ⟨b, 0, none⟩)) (h : Bx w b z) :
  (results fn tmps).run Tryz.prog w = .ok (.agg (cellsS z)) w := by
 have := run_loadVar_mid (P := Tryz.prog) w b 0 69 (cellsS z).toList _ h.st.range Tryz.underlying69 rfl (by rw [Tryz.info69]; simp [cellsS_size])
 have ht' : tmps[t]?.getD undef = .pointer (some ⟨b, 0, none⟩) := by simpa using ht
 simp [results, hf, asAddr, ht', this]
theorem or_small {x y : Nat} (h : x < 18446744073709551616) (k : y < 18446744073709551616) : x ||| y < 18446744073709551616 := Nat.or_lt_two_pow (n := 64) h k
theorem sadd_small {x : Nat → Nat} {s : Nat} (h : ∀ i, i < 32 → x i < 18446744073709551616) (hs : s < 2048) : ∀ i, i < 32 → sadd x s i < 18446744073709551616 :=
 upd_small h (or_small (h _ (by omega)) (pow_lt_64 (Nat.mod_lt _ (by decide))))
theorem sdel_small {x : Nat → Nat} {s : Nat} (h : ∀ i, i < 32 → x i < 18446744073709551616) (hs : s < 2048) : ∀ i, i < 32 → sdel x s i < 18446744073709551616 :=
 upd_small h (Nat.lt_of_le_of_lt Nat.and_le_left (h _ (by omega)))
theorem upd_self (x : Nat → Nat) (i v : Nat) : upd x i v i = v := by simp [upd]
theorem addB (b : Nat) (x : Nat → Nat) (s : Nat) (w : World) (hs : s < 2048) (h : Bx w b x) :
  Calls Tryz.prog 70 #[.pointer (some ⟨b, 0, none⟩), .int .i64 s] w fun e w' => (∃ v, e = .returned v) ∧ Bx w' b (sadd x s) ∧ But b w w' ∧ w'.heap.size = w.heap.size := by
 refine (add_any b 0 x s w hs h.st).mono ?_
 rintro e w' ⟨he, rfl⟩
 have h1 : sadd x s (s / 64) < 18446744073709551616 := sadd_small h.small hs _ (by omega)
 refine ⟨he, ?_, ?_, by simp [World.setCell]⟩
 ·have := (h.set (i := s / 64) (by omega) h1).drew
  rw [Nat.zero_add]
  refine this.congr (fun i _ => ?_)
  simp only [sadd, upd_self]
 ·rw [Nat.zero_add]
  exact ((But.refl b w).setCell _ _).trans ((Sm.refl _).drew.but b)
theorem bx_lt {w : World} {b : Nat} {x : Nat → Nat} (h : Bx w b x) : b < w.heap.size := (jq4.1 h.blk).1
def sand (x y : Nat → Nat) (i : Nat) : Nat := x i &&& y i
set_option maxHeartbeats 1000000 in
theorem meet_any (b o c q : Nat) (x y : Nat → Nat) (w : World) (hx : St w b o x) (hy : St w c q y) :
  Calls Tryz.prog 29 #[.pointer (some ⟨b, o, none⟩), .pointer (some ⟨c, q, none⟩)] w fun e w' => e = .returned (.agg (cellsS (sand x y))) ∧ Below w.heap.size w w' := by
 have HX : Hid (St w b o x) := hx
 have HY : Hid (St w c q y) := hy
 clear hx hy
 go_enter Tryz.func29, Tryz.ntmps29
 go_wp2
 rw [zeroS]
 go_loopw [7] (fun i wr => ∃ k : Nat, k ≤ 32 ∧ i = .int .i64 k ∧ Hid (Below w.heap.size w wr ∧ Bx wr (w.heap.size + 1) (fun j => if j < k then sand x y j else 0) ∧ Bx wr w.heap.size (fun _ => 0))) (fun i _ => 32 - (intOf i).toNat)
 case atStart => exact ⟨0, by omega, rfl, hid ⟨((Below.refl _ _).alloc jq0 _).alloc (by simp) _, by have hq := (bx_new (w.alloc (.cells (cellsS (fun _ => 0)) 69)) (fun _ => 0) (fun _ _ => by decide)); rw [World.size_alloc] at hq; exact hq.congr (fun i _ => by rw [if_neg (by omega)]), (bx_new w (fun _ => 0) (fun _ _ => by decide)).below (box_below _ _) (by simp)⟩⟩
 case round =>
  obtain ⟨k, hk, rfl, H⟩ := hrel
  by_cases hlt : k < 32
  ·have h1 := (HX.out.cell k hlt)
   have h2 := (HY.out.cell k hlt)
   have h1 : wr.cell? ⟨b, o + k, none⟩ = some (.int .u64 (x k : Nat)) := below_cell H.out.1 jq0 h1
   have h2 : wr.cell? ⟨c, q + k, none⟩ = some (.int .u64 (y k : Nat)) := below_cell H.out.1 jq0 h2
   have h3 := H.out.2.1.st.cell k hlt
   have h4 := H.out.2.1.st.free k hlt
   rw [Nat.zero_add] at h3 h4
   have E : Hid (bits BinOp.and IntKind.u64 (x k : Nat) (y k : Nat) = ((sand x y k : Nat) : Int)) := bits_and_u64_nat _ _ (HX.out.small k hlt) (HY.out.small k hlt)
   go_wp2
   go_region
   rw [E.out]
   go_wp2
   go_roundw
   case rel =>
    have hsm : sand x y k < 18446744073709551616 := Nat.lt_of_le_of_lt Nat.and_le_left (HX.out.small k hlt)
    refine ⟨k + 1, by omega, by go_num, hid ⟨?_, ?_, ?_⟩⟩
    ·exact (H.out.1.setCell (p := ⟨w.heap.size + 1, k, none⟩) (by simp) _).drew
    ·refine ((H.out.2.1.set hlt hsm).drew).congr (fun i hi => ?_)
     unfold upd
     by_cases e : i = k
     ·subst e; simp
     ·simp only [if_neg e]
      by_cases e2 : i < k
      ·rw [if_pos e2, if_pos (by omega)]
      ·rw [if_neg e2, if_neg (by omega)]
    ·exact (H.out.2.2.but ((But.refl (w.heap.size + 1) wr).setCell k _) (by omega)).drew
   case measure => simp [intOf]; omega
  ·have HK : Hid (k = 32) := hid (by omega)
   have hsz : ∀ i, i < 32 → (fun j => if j < k then sand x y j else 0) i < 18446744073709551616 := H.out.2.1.small
   go_wp2_with (first | (refine wl_load rfl _ rfl (w.heap.size + 1) 0 rfl _ H.out.2.1.st ?_) | (refine wl_store rfl _ _ rfl w.heap.size (fun j => if j < k then sand x y j else 0) rfl rfl _ H.out.2.2 hsz ?_; intro w1 hb1 hs1 hx1))
   refine bodyPost_ret (res_set rfl rfl hx1) rfl ?_
   refine ⟨?_, H.out.1.trans (hb1.below jq0 H.out.1.size)⟩
   have : cellsS (fun j => if j < k then sand x y j else 0) = cellsS (sand x y) := by
    unfold cellsS
    congr 1
    exact List.map_congr_left (fun i hi => by have h1 := List.mem_range.1 hi; have h2 := HK.out; simp only []; rw [if_pos (by omega)])
   rw [this]
end Go.Proofs.YtmdpbaobihdgkaaGreatDoor
