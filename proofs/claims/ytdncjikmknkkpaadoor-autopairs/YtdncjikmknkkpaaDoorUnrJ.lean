/- Rest, unrolled. unrolled: a word written otherwise. -/
import Derived.Test.YtdncjikmknkkpaaDoorLeaJ
import Derived.Test.YtdncjikmknkkpaaDoorHeld
import Derived.Test.YtdncjikmknkkpaaDoorWlk
import Derived.Maps.AppendAt
import Derived.Laws.OwnMore
namespace Go.Proofs.YtdncjikmknkkpaaDoor
open Go.RowKit

/-- 'append(v, s...)' at a step of a drawn region, s a slice of whatever memory, nil too. -/
theorem step_append_U {P : Program} {w : World} {ops : Array Oper} {o : Oper} {a : Act} {K : Act → World → Prop} {Q : Exit → Act → World → Prop} {E : Prop} (hgd : o.guard = none) (s x : Operand) (t : TypeId)
    (ho : o.op = .call { callee := .builtin .append, args := #[s, x], argTypes := #[t, t] })
    (base : Nat) (i : TypeInfo) (ht : P.underlying t = some (.slice 51)) (hi : P.info? 51 = some i) (hz : i.zero = some (.int .u64 0)) (hsize : i.size = 1) (hby : i.bytes = 8)
    (v : Value) (n : Nat) (xs : List Int) (hs : a.eval s = v) (hown : w.ownsRow base 51 1 v n (valsU xs))
    (b : Option Addr) (m c : Nat) (Y : Nat → Int) (hx : a.eval x = .slice b m c) (hrow : RowU w b m Y) (hnil : b = none → m = 0 ∧ c = 0) (hsum : n + m ≤ 4194304) (hbase : base ≤ w.heap.size)
    (h : ∀ v' w', w'.ownsRow base 51 1 v' (n + m) (valsU (xs ++ lstU m Y)) → w.grownBy w' v.ownBlock → K (a.put o.dst v') w') :
    if Region.wanted o (yielded ops a.tmps) = true then Oper.wp P o a w K Q else E := by
  have hw : Region.wanted o (yielded ops a.tmps) = true := by simp [Region.wanted, hgd]
  rw [if_pos hw]
  have hv : valsU (xs ++ lstU m Y) = valsU xs ++ valsU (lstU m Y) := by simp [valsU]
  cases b with
  | some ad =>
    obtain ⟨v', w', hr, h2, h3, _, _⟩ := run_append_own_at (P := P) w base t o.type 51 i (.int .u64 0) 1 8 ht hi hz hsize hby rfl (by decide) v n (valsU xs) hown ad m c (valsU (lstU m Y)) (by rw [valsU_len, lstU_len, Nat.mul_one]) (news_of_rowU hrow) (valsU_one _) (by unfold maxLen; omega) (by omega) hbase
    unfold Oper.wp execOp
    simp only [ho, resolve, invoke, builtin, Sem.run_bind, Sem.run_pure, Result.andThen_ok, List.map_toArray, List.map_cons, List.map_nil, hs, hx, hr]
    exact h v' w' (by rw [hv]; exact h2) h3
  | none =>
    obtain ⟨rfl, rfl⟩ := hnil rfl
    have hr := run_append_owned_none (P := P) (w := w) base t o.type 51 i 1 ht hi v n (valsU xs) hown
    unfold Oper.wp execOp
    simp only [ho, resolve, invoke, builtin, Sem.run_bind, Sem.run_pure, Result.andThen_ok, List.map_toArray, List.map_cons, List.map_nil, hs, hx, hr]
    exact h v w (by simpa [lstU] using hown) ⟨rfl, rfl, rfl, Nat.le_refl _, fun _ _ _ => rfl⟩

theorem alloc_le {w w' : World} {b : Nat} {o : Obj} (hb : Below w.heap.size w w') (h : w.heap[b]? = some o) : w'.heap[b]? = some o := (hb.block b (Array.getElem?_eq_some_iff.1 h).1).trans h

theorem rest_eq (k d : Int) (hd : 0 < d) : (if k.tmod d < 0 then k.tmod d + d else k.tmod d) = k % d := by
  have h := Int.tmod_eq_emod (a := k) (b := d)
  have h1 := Int.emod_nonneg k (show d ≠ 0 by omega)
  have h2 := Int.emod_lt_of_pos k hd
  split at h
  · rw [h, if_neg (by omega)]; omega
  · rw [h, if_pos (by omega)]; omega

set_option maxHeartbeats 400000 in
theorem rest_any (k : Int) (d : Nat) (w : World) (hd : 0 < d) (hd2 : d ≤ 1000) (_hk1 : -9223372036854775808 ≤ k) (_hk2 : k ≤ 9223372036854775807) :
    Calls Tryd.prog 61 #[.int .i64 k, .int .i64 d] w fun e w' => e = .returned (.int .i64 (k % d)) ∧ w' = w := by
  have HE := hid (rest_eq k d (by omega))
  have hd0 : ¬ d = 0 := by omega
  have b1 := Int.tmod_eq_emod (a := k) (b := (d : Int))
  have b2 := Int.emod_nonneg k (show (d : Int) ≠ 0 by omega)
  have b3 := Int.emod_lt_of_pos k (show (0 : Int) < d by omega)
  have c1 : -(d : Int) ≤ k.tmod d ∧ k.tmod d < d := by
    split at b1 <;> omega
  obtain ⟨c1, c2⟩ := c1
  clear b1 b2 b3
  have hd3 : (d : Int) ≤ 1000 := by omega
  by_cases hneg : k.tmod d < 0
  · have E2 : Hid (k.tmod d + d = k % d) := by have := HE.out; rw [if_pos hneg] at this; exact hid this
    clear HE
    go_enter Tryd.func61, Tryd.ntmps61
    go_wp2
    go_ret
    exact ⟨ret_int (by first | exact E2.out | (rw [← E2.out]; unfold wrap64; omega)), rfl⟩
  · have E2 : Hid (k.tmod d = k % d) := by have := HE.out; rw [if_neg hneg] at this; exact hid this
    clear HE
    go_enter Tryd.func61, Tryd.ntmps61
    go_wp2
    go_ret
    exact ⟨ret_int E2.out, rfl⟩

end Go.Proofs.YtdncjikmknkkpaaDoor

namespace Go.Proofs.YtdncjikmknkkpaaDoor
open Go.RowKit

theorem below_alloc2 (w : World) (o o2 : Obj) : Below w.heap.size w ((w.alloc o).alloc o2) := ((Below.refl _ _).alloc (Nat.le_refl _) _).alloc (by simp) _

theorem two_cells {w : World} {b : Nat} {x y : Value} {t : TypeId} (h : w.heap[b]? = some (.cells #[x, y] t)) : w.cell? ⟨b, 0, none⟩ = some x ∧ w.cell? ⟨b, 1, none⟩ = some y := ⟨cell_of_cells h rfl, cell_of_cells h rfl⟩

theorem below_of_drew {w w2 : World} (h : Below w.drew.heap.size w.drew w2) : Below w.heap.size w w2 := ⟨h.os, h.tape, h.output, h.size, h.block⟩

theorem sl_from_any (b o len cap k : Nat) (hk : k ≤ len) (hc : len ≤ cap) : ∃ x, (k < len → x = (⟨b, o + k, none⟩ : Addr)) ∧ ∀ w : World, (Instr.slice 24 (.slice (some ⟨b, o, none⟩) len cap) (some (.int .i64 k)) none none).run Tryd.prog w = .ok (.slice (some x) (len - k) (cap - k)) w := by
  by_cases h : k < cap
  · exact ⟨⟨b, o + k, none⟩, fun _ => rfl, fun w => sl_from b o len cap k hk h w⟩
  · refine ⟨⟨b, o, none⟩, fun h2 => by omega, fun w => ?_⟩
    have e : k = cap := by omega
    have e2 : len = cap := by omega
    rw [run_slice_l (P := Tryd.prog) (w := w) 24 (some ⟨b, o, none⟩) len cap Tryd.elem25 .i64 k (by omega) (by omega), size30]
    simp [Result.andThen, sliced, e]

theorem owns_ne {w : World} {base n b : Nat} {a : Option Addr} {c : Nat} {xs : List Value} {cs : Array Value} (h : w.ownsRow base 51 1 (.slice a n c) n xs) {y : Addr} (hy : a = some y) (hb : w.heap[b]? = some (.cells cs 28 (0, 0))) : y.block ≠ b := by
  subst hy
  rcases h.2 with ⟨h0, _⟩ | ⟨g, cap, cur, h1, _, h3, _⟩
  · cases h0
  · cases h1
    intro e
    have e' : g = b := e
    rw [e', hb] at h3
    injection h3 with h3
    injection h3 with _ h4
    exact absurd h4 (by decide)

theorem one_set0 {w : World} {x : Nat} {u v : Value} {t : TypeId} (h : w.heap[x]? = some (.cells #[u, v] t (0, 0))) (a : Value) : (w.setCell ⟨x, 0, none⟩ a).heap[x]? = some (.cells #[a, v] t (0, 0)) := by
  simp [World.setCell, Array.getElem?_modify, h]
theorem one_set1 {w : World} {x : Nat} {u v : Value} {t : TypeId} (h : w.heap[x]? = some (.cells #[u, v] t (0, 0))) (a : Value) : (w.setCell ⟨x, 1, none⟩ a).heap[x]? = some (.cells #[u, a] t (0, 0)) := by
  simp [World.setCell, Array.getElem?_modify, h]

theorem grown_cell {w w' : World} {k : Option Nat} (h : w.grownBy w' k) {p : Addr} {v : Value} (hv : w.cell? p = some v) (hk : k ≠ some p.block) : w'.cell? p = some v := by
  rw [World.cell?_of_block (h.block _ (World.block_lt_of_cell? _ _ hv) (fun e => hk e.symm))]
  exact hv

set_option maxHeartbeats 4000000 in
theorem unrolled_any {w : World} {sa : Option Addr} {s sc : Nat} {la : Option Addr} {m lc : Nat} {S L : Nat → Int} (hw : Wd w sa s la m S L) (hsn : sa = none → s = 0 ∧ sc = 0) (hlc : m ≤ lc) (h60 : s + m ≤ 60) (hm : 0 < m) (k : Int) (hk1 : -9223372036854775808 ≤ k) (hk2 : k ≤ 9223372036854775807) (n : Nat) (hn : k % ((m + 1 : Nat) : Int) = n) (hnm : n ≤ m) :
    Calls Tryd.prog 18 #[.agg #[.slice sa s sc, .slice la m lc], .int .i64 k] w fun e w' => ∃ a c b d, e = .returned (.agg #[.slice a ((s + n : Nat)) c, .slice b m d]) ∧ (a = none → s + n = 0 ∧ c = 0) ∧ (b = none → m = 0 ∧ d = 0) ∧ s + n ≤ c ∧ m ≤ d ∧ RowU w' a (s + n) (cat s S L) ∧ RowU w' b m (fun i => L ((n + i) % m)) ∧ Below w.heap.size w w' := by
  obtain ⟨lb, lo, hla, hlcell⟩ := hw.loop
  obtain rfl := hla hm
  obtain ⟨u, hu⟩ : ∃ y, y = (w.alloc (.cells #[.slice sa s sc, .slice (some ⟨lb, lo, none⟩) m lc] 28)).alloc (.cells #[.slice none 0 0, .slice none 0 0] 28) := ⟨_, rfl⟩
  have hB : Below w.heap.size w u := by rw [hu]; exact below_alloc2 _ _ _
  have e1 : (w.alloc (.cells #[.slice sa s sc, .slice (some ⟨lb, lo, none⟩) m lc] 28)).heap.size = w.heap.size + 1 := by simp
  have x1 : u.heap[w.heap.size + 1]? = some (.cells #[.slice none 0 0, .slice none 0 0] 28) := by rw [hu, ← e1]; exact Go.Deep.blk_alloc_new _ _
  have x0 : u.heap[w.heap.size]? = some (.cells #[.slice sa s sc, .slice (some ⟨lb, lo, none⟩) m lc] 28) := by
    rw [hu, Go.Deep.blk_alloc_lt _ _ _ (by omega)]
    exact Go.Deep.blk_alloc_new _ _
  have hus : u.heap.size = w.heap.size + 1 + 1 := by rw [hu]; simp
  have C1 := hid (clone_any sa s sc S u (by omega) (hw.stem.below hB) hsn)
  have C2 : Hid (∀ z, Calls Tryd.prog 61 #[.int .i64 k, .int .i64 ((m : Int) + 1)] z fun e w' => e = .returned (.int .i64 n) ∧ w' = z) := fun z => by
    have := rest_any k (m + 1) z (by omega) (by omega) hk1 hk2
    rw [hn] at this
    rw [show (((m + 1 : Nat)) : Int) = (m : Int) + 1 by omega] at this
    exact this
  obtain ⟨i0, hi0, hz0, hz1, hz2⟩ := info_parts Tryd.info51
  have HI : Hid (Tryd.prog.info? 51 = some i0 ∧ i0.zero = some (.int .u64 0) ∧ i0.size = 1 ∧ i0.bytes = 8) := ⟨hi0, hz0, hz1, hz2⟩
  have HW := hid hw
  have HLC : Hid (∀ z, Below w.heap.size w z → ∀ i, i < m → z.cell? ⟨lb, lo + i, none⟩ = some (.int .u64 (L i))) := fun z hz i hi => below_cell hz (Nat.le_refl _) (hlcell i hi)
  have HU := hid hu
  have HB := hid hB
  have HUS := hid hus
  have HX0 := hid x0
  have HX1 := hid x1
  have slt := sl_to lb lo m lc n (by omega)
  obtain ⟨xf, hxf, slf⟩ := sl_from_any lb lo m lc n hnm hlc
  have HXF := hid hxf
  clear hi0 hz0 hz1 hz2 hu hB e1 x1 x0 hus hw hlcell hla hsn hn hxf
  go_enter Tryd.func18, Tryd.ntmps18
  go_wp2_with fail
  rw [← HU.out]
  refine C1.out.mono ?_
  rintro e w3 ⟨v3, rfl, hv3, hb3⟩
  obtain ⟨_, a3, c3, rfl, _, q2, _, _⟩ := rowU_of_owns hv3
  have HV3 := hid hv3
  have HB3 := hid hb3
  have HQ2 := hid q2
  have C3 := hid (C2.out (w3.alloc (.cells #[.slice a3 s c3, .slice none 0 0] 28)))
  have g1 : w3.cell? ⟨w.heap.size, 1, none⟩ = some (.slice (some ⟨lb, lo, none⟩) m lc) := below_cell hb3 (Nat.le_refl _) (cell_of_cells HX0.out rfl)
  have g2 : w.heap.size < w3.heap.size := World.block_lt_of_cell? _ _ g1
  clear C1 C2 hv3 hb3 q2
  go_wp2_with fail
  refine C3.out.mono ?_
  rintro e w4 ⟨rfl, hw4⟩
  subst hw4
  clear C3
  obtain ⟨U, hU⟩ : ∃ y, y = w3.alloc (.cells #[.slice a3 s c3, .slice none 0 0] 28) := ⟨_, rfl⟩
  obtain ⟨ob, hob⟩ : ∃ y, y = w3.heap.size := ⟨_, rfl⟩
  have hbU : Below w3.heap.size w3 U := by rw [hU]; exact box_below _ _
  have xo : U.heap[ob]? = some (.cells #[.slice a3 s c3, .slice none 0 0] 28) := by rw [hU, hob]; exact Go.Deep.blk_alloc_new _ _
  have hBU : Below w.heap.size w U := HB.out.trans ((HB3.out.trans (hbU.mono HB3.out.size)).mono HB.out.size)
  have hlow : w.heap.size + 1 < ob := by
    have := HB3.out.size
    have := HUS.out
    omega
  have HOwn : Hid (U.ownsRow u.heap.size 51 1 (.slice a3 s c3) s (valsU (lstU s S))) := owns_below HV3.out hbU
  have hsz : u.heap.size ≤ U.heap.size := Nat.le_trans HB3.out.size hbU.size
  have h0 : U.cell? ⟨ob, 0, none⟩ = some (.slice a3 s c3) := cell_of_cells xo rfl
  have h1 : U.cell? ⟨w.heap.size, 1, none⟩ = some (.slice (some ⟨lb, lo, none⟩) m lc) := below_cell hbU (Nat.le_refl _) g1
  have xr : U.heap[w.heap.size + 1]? = some (.cells #[.slice none 0 0, .slice none 0 0] 28) := by
    have h2 : w3.heap[w.heap.size + 1]? = some (.cells #[.slice none 0 0, .slice none 0 0] 28) := (HB3.out.block _ (by have := HUS.out; omega)).trans HX1.out
    exact alloc_le hbU h2
  have hap : ∀ q, (Value.slice a3 s c3).ownBlock = some q → u.heap.size ≤ q ∧ q ≠ ob := by
    intro q hq
    have hl := HV3.out.lt q hq
    exact ⟨hl.1, by omega⟩
  have HXO := hid xo
  have HXR := hid xr
  have HBU := hid hBU
  have HAP := hid hap
  rw [← hU, ← hob]
  clear hU hob hbU xo hBU xr hap HV3 g1 HU
  have HF : Hid (U.frozen? ⟨ob, 0, none⟩ = false) := fz_of HXO.out 0
  have H01 := hid (And.intro h0 h1)
  go_wp2_with fail
  refine G_region (fun z => z.cell? ⟨ob, 0, none⟩ = some (.slice a3 s c3) ∧ z.cell? ⟨w.heap.size, 1, none⟩ = some (.slice (some ⟨lb, lo, none⟩) m lc)) (fun j => j == 8) (by kernel_rfl) ⟨h0, h1⟩ (fun hHeld => ?_)
  refine G_take (i := 0) (oi := { dst := some 17, op := Op.fieldAddr 28 (Operand.tmp 5) 0, type := 0, pos := _, after := #[], guard := none }) (v := .pointer (some ⟨ob, 0, none⟩)) rfl (by kernel_rfl) (by kernel_rfl) (by kernel_rfl) (by kernel_rfl) (fun _ _ _ h => h) (by rfl) (fun u hu => ?_) hHeld ?_
  · (try dsimp only at hu); go_simp
  (try simp only [Act.put, List.setIfInBounds_toArray, List.set_cons_zero, List.set_cons_succ])
  refine G_take (i := 1) (oi := { dst := some 18, op := Op.load 24 (Operand.tmp 17), type := 24, pos := _, after := #[{ on := 0, ground := Ground.data }], guard := none }) (v := .slice a3 s c3) rfl (by kernel_rfl) (by kernel_rfl) (by kernel_rfl) (by kernel_rfl) (fun _ _ _ h => h) (by rfl) (fun u hu => ?_) hHeld ?_
  · (try dsimp only at hu); go_simp
  (try simp only [Act.put, List.setIfInBounds_toArray, List.set_cons_zero, List.set_cons_succ])
  refine G_take (i := 2) (oi := { dst := some 19, op := Op.fieldAddr 28 (Operand.tmp 2) 1, type := 0, pos := _, after := #[], guard := none }) (v := .pointer (some ⟨w.heap.size, 1, none⟩)) rfl (by kernel_rfl) (by kernel_rfl) (by kernel_rfl) (by kernel_rfl) (fun _ _ _ h => h) (by rfl) (fun u hu => ?_) hHeld ?_
  · (try dsimp only at hu); go_simp
  (try simp only [Act.put, List.setIfInBounds_toArray, List.set_cons_zero, List.set_cons_succ])
  refine G_take (i := 3) (oi := { dst := some 20, op := Op.load 24 (Operand.tmp 19), type := 24, pos := _, after := #[{ on := 2, ground := Ground.data }], guard := none }) (v := .slice (some ⟨lb, lo, none⟩) m lc) rfl (by kernel_rfl) (by kernel_rfl) (by kernel_rfl) (by kernel_rfl) (fun _ _ _ h => h) (by rfl) (fun u hu => ?_) hHeld ?_
  · (try dsimp only at hu); go_simp
  (try simp only [Act.put, List.setIfInBounds_toArray, List.set_cons_zero, List.set_cons_succ])
  refine G_take (i := 4) (oi := { dst := some 21, op := Op.move (Operand.tmp 6), type := 3, pos := _, after := #[], guard := none }) (v := .int .i64 n) rfl (by kernel_rfl) (by kernel_rfl) (by kernel_rfl) (by kernel_rfl) (fun _ _ _ h => h) (by rfl) (fun u hu => ?_) hHeld ?_
  · (try dsimp only at hu); go_simp
  (try simp only [Act.put, List.setIfInBounds_toArray, List.set_cons_zero, List.set_cons_succ])
  refine G_take (i := 5) (oi := { dst := some 22, op := Op.slice 24 (Operand.tmp 20) none (some (Operand.tmp 21)) none, type := 24, pos := _, after := #[{ on := 3, ground := Ground.data }, { on := 4, ground := Ground.data }], guard := none }) (v := .slice (some ⟨lb, lo, none⟩) n lc) rfl (by kernel_rfl) (by kernel_rfl) (by kernel_rfl) (by kernel_rfl) (fun _ _ _ h => h) (by rfl) (fun u hu => ?_) hHeld ?_
  · (try dsimp only at hu); go_simp
  (try simp only [Act.put, List.setIfInBounds_toArray, List.set_cons_zero, List.set_cons_succ])
  refine G_step (i := 6) (o := { dst := some 23, op := Op.call { callee := Callee.builtin Builtin.append, args := #[Operand.tmp 18, Operand.tmp 22], argTypes := #[24, 24] }, type := 24, pos := _, after := #[{ on := 1, ground := Ground.data }, { on := 5, ground := Ground.data }], guard := none }) (by kernel_rfl) rfl (fun K' hK => ?_)
  refine step_append_U (by rfl) _ _ _ (by rfl) u.heap.size i0 Tryd.underlying24 HI.out.1 HI.out.2.1 HI.out.2.2.1 HI.out.2.2.2 (.slice a3 s c3) s (lstU s S) (by rfl) HOwn.out (some ⟨lb, lo, none⟩) n lc L (by rfl) ⟨lb, lo, fun _ => rfl, fun i hi => HLC.out U HBU.out i (by omega)⟩ (fun h => by cases h) (by omega) hsz ?_
  intro v5 w5 hown hgrow
  have c0 : w5.cell? ⟨ob, 0, none⟩ = some (.slice a3 s c3) := grown_cell hgrow h0 (fun e => (HAP.out _ e).2 rfl)
  have c1 : w5.cell? ⟨w.heap.size, 1, none⟩ = some (.slice (some ⟨lb, lo, none⟩) m lc) := grown_cell hgrow h1 (fun e => by have := (HAP.out _ e).1; have := HUS.out; have h9 : u.heap.size ≤ w.heap.size := (HAP.out _ e).1; omega)
  have xo5 : w5.heap[ob]? = some (.cells #[.slice a3 s c3, .slice none 0 0] 28) := (hgrow.block _ (Array.getElem?_eq_some_iff.1 HXO.out).1 (fun e => (HAP.out _ e.symm).2 rfl)).trans HXO.out
  have f5 := fz_of xo5 0
  refine hK.out _ _ (fun _ => ?_) (fun hS2 => ?_)
  · exact ⟨c0, c1⟩
  have hHeld2 := hS2 rfl
  clear hK K' hS2 hHeld
  (try simp only [Act.put, List.setIfInBounds_toArray, List.set_cons_zero, List.set_cons_succ])
  refine G_take (i := 7) (oi := { dst := some 24, op := Op.fieldAddr 28 (Operand.tmp 5) 0, type := 0, pos := _, after := #[{ on := 0, ground := Ground.phase }, { on := 1, ground := Ground.phase }, { on := 2, ground := Ground.phase }, { on := 3, ground := Ground.phase }, { on := 4, ground := Ground.phase }, { on := 5, ground := Ground.phase }, { on := 6, ground := Ground.phase }], guard := none }) (v := .pointer (some ⟨ob, 0, none⟩)) rfl (by kernel_rfl) (by kernel_rfl) (by kernel_rfl) (by kernel_rfl) (fun _ _ _ h => h) (by rfl) (fun u hu => ?_) hHeld2 ?_
  · (try dsimp only at hu); go_simp
  (try simp only [Act.put, List.setIfInBounds_toArray, List.set_cons_zero, List.set_cons_succ])
  obtain ⟨_, a5, c5, rfl, q51, q52, q53, q54⟩ := rowU_of_owns hown
  refine G_step (i := 8) (o := { dst := none, op := Op.store 24 (Operand.tmp 24) (Operand.tmp 23), type := 0, pos := _, after := #[{ on := 7, ground := Ground.data }, { on := 6, ground := Ground.data }, { on := 6, ground := Ground.chain }, { on := 0, ground := Ground.phase }, { on := 1, ground := Ground.phase }, { on := 2, ground := Ground.phase }, { on := 3, ground := Ground.phase }, { on := 4, ground := Ground.phase }, { on := 5, ground := Ground.phase }, { on := 6, ground := Ground.phase }], guard := none }) (by kernel_rfl) rfl (fun K' hK => ?_)
  go_simp
  refine hK.out _ _ (fun h => absurd h (by decide)) (fun _ => ?_)
  clear hK K' hHeld2
  (try simp only [Act.put, List.setIfInBounds_toArray, List.set_cons_zero, List.set_cons_succ])
  refine G_done (by kernel_rfl) ?_ _
  obtain ⟨V, hV⟩ : ∃ y, y = w5.setCell ⟨ob, 0, none⟩ (.slice a5 (s + n) c5) := ⟨_, rfl⟩
  have ne5 : ∀ y, a5 = some y → y.block ≠ ob ∧ u.heap.size ≤ y.block := fun y hy => ⟨owns_ne hown hy xo5, q52 y hy⟩
  have hbV : But ob w5 V := by rw [hV]; exact (But.refl _ _).setCell _ _
  have hB5 : Below w.heap.size w w5 := (below_drewN HBU.out 1).grown hgrow HBU.out.size (fun q hq => Nat.le_trans HB.out.size (HAP.out q hq).1)
  have HVF : Hid (V.heap[ob]? = some (.cells #[.slice a5 (s + n) c5, .slice none 0 0] 28) ∧ V.heap[w.heap.size + 1]? = some (.cells #[.slice none 0 0, .slice none 0 0] 28) ∧ Below w.heap.size w V ∧ RowU V a5 (s + n) (cat s S L) ∧ (a5 = none → s + n = 0 ∧ c5 = 0) ∧ s + n ≤ c5 ∧ ∀ y, a5 = some y → y.block ≠ ob ∧ u.heap.size ≤ y.block) := by
    refine ⟨?_, ?_, ?_, ?_, q51, q53, ne5⟩
    · rw [hV]
      exact one_set0 xo5 _
    · have h9 : w5.heap[w.heap.size + 1]? = some (.cells #[.slice none 0 0, .slice none 0 0] 28) := (hgrow.block _ (Array.getElem?_eq_some_iff.1 HXR.out).1 (fun e => by have h8 : u.heap.size ≤ w.heap.size + 1 := (HAP.out _ e.symm).1; have := HUS.out; omega)).trans HXR.out
      exact (hbV.block _ (Array.getElem?_eq_some_iff.1 h9).1 (by omega)).trans h9
    · exact hB5.trans (hbV.below (by omega) hB5.size)
    · exact (q54 (cat s S L) (fun i hi => cat_at s n S L i hi)).but hbV (fun y hy => (ne5 y hy).1)
  have h1V : V.cell? ⟨w.heap.size, 1, none⟩ = some (.slice (some ⟨lb, lo, none⟩) m lc) := hbV.cell (by show w.heap.size ≠ ob; omega) c1
  have hobV : ob < V.heap.size := (Array.getElem?_eq_some_iff.1 HVF.out.1).1
  rw [← hV]
  clear hV hbV hB5 ne5 q51 q52 q53 q54 hown hgrow xo5 f5 c0 c1 h0 h1 H01 HF HOwn HXO HXR HAP HBU
  go_wp2_with fail
  have C6 : Hid (Calls Tryd.prog 60 #[.slice (some xf) (m - n) (lc - n)] V.drew fun e w' => ∃ v, e = .returned v ∧ w'.ownsRow V.heap.size 51 1 v (m - n) (valsU (lstU (m - n) (fun i => L (n + i)))) ∧ Below V.heap.size V w') := by
    refine (clone_any (some xf) (m - n) (lc - n) (fun i => L (n + i)) V.drew (by omega) ?_ (fun h => by cases h)).mono (fun e w' hh => ?_)
    · by_cases hlt : n < m
      · have e := HXF.out hlt
        rw [e]
        exact RowU.drop (n := m) (fun i hi => HLC.out V HVF.out.2.2.1 i hi)
      · exact ⟨0, 0, fun hh => by omega, fun i hi => by omega⟩
    · obtain ⟨v, h1, h2, h3⟩ := hh
      exact ⟨v, h1, h2, below_of_drew h3⟩
  refine G_region (fun z => z.cell? ⟨w.heap.size, 1, none⟩ = some (.slice (some ⟨lb, lo, none⟩) m lc)) (fun j => j == 11) (by kernel_rfl) h1V (fun hHeld => ?_)
  refine G_take (i := 0) (oi := { dst := some 25, op := Op.fieldAddr 28 (Operand.tmp 2) 1, type := 0, pos := _, after := #[], guard := none }) (v := .pointer (some ⟨w.heap.size, 1, none⟩)) rfl (by kernel_rfl) (by kernel_rfl) (by kernel_rfl) (by kernel_rfl) (fun _ _ _ h => h) (by rfl) (fun u hu => ?_) hHeld ?_
  · (try dsimp only at hu); go_simp
  (try simp only [Act.put, List.setIfInBounds_toArray, List.set_cons_zero, List.set_cons_succ])
  refine G_take (i := 1) (oi := { dst := some 26, op := Op.load 24 (Operand.tmp 25), type := 24, pos := _, after := #[{ on := 0, ground := Ground.data }], guard := none }) (v := .slice (some ⟨lb, lo, none⟩) m lc) rfl (by kernel_rfl) (by kernel_rfl) (by kernel_rfl) (by kernel_rfl) (fun _ _ _ h => h) (by rfl) (fun u hu => ?_) hHeld ?_
  · (try dsimp only at hu); go_simp
  (try simp only [Act.put, List.setIfInBounds_toArray, List.set_cons_zero, List.set_cons_succ])
  refine G_take (i := 2) (oi := { dst := some 27, op := Op.move (Operand.tmp 6), type := 3, pos := _, after := #[], guard := none }) (v := .int .i64 n) rfl (by kernel_rfl) (by kernel_rfl) (by kernel_rfl) (by kernel_rfl) (fun _ _ _ h => h) (by rfl) (fun u hu => ?_) hHeld ?_
  · (try dsimp only at hu); go_simp
  (try simp only [Act.put, List.setIfInBounds_toArray, List.set_cons_zero, List.set_cons_succ])
  refine G_take (i := 3) (oi := { dst := some 28, op := Op.slice 24 (Operand.tmp 26) (some (Operand.tmp 27)) none none, type := 24, pos := _, after := #[{ on := 1, ground := Ground.data }, { on := 2, ground := Ground.data }], guard := none }) (v := .slice (some xf) (m - n) (lc - n)) rfl (by kernel_rfl) (by kernel_rfl) (by kernel_rfl) (by kernel_rfl) (fun _ _ _ h => h) (by rfl) (fun u hu => ?_) hHeld ?_
  · (try dsimp only at hu); go_simp
  (try simp only [Act.put, List.setIfInBounds_toArray, List.set_cons_zero, List.set_cons_succ])
  refine G_take (i := 5) (oi := { dst := some 30, op := Op.fieldAddr 28 (Operand.tmp 2) 1, type := 0, pos := _, after := #[], guard := none }) (v := .pointer (some ⟨w.heap.size, 1, none⟩)) rfl (by kernel_rfl) (by kernel_rfl) (by kernel_rfl) (by kernel_rfl) (fun _ _ _ h => h) (by rfl) (fun u hu => ?_) hHeld ?_
  · (try dsimp only at hu); go_simp
  (try simp only [Act.put, List.setIfInBounds_toArray, List.set_cons_zero, List.set_cons_succ])
  refine G_take (i := 6) (oi := { dst := some 31, op := Op.load 24 (Operand.tmp 30), type := 24, pos := _, after := #[{ on := 5, ground := Ground.data }], guard := none }) (v := .slice (some ⟨lb, lo, none⟩) m lc) rfl (by kernel_rfl) (by kernel_rfl) (by kernel_rfl) (by kernel_rfl) (fun _ _ _ h => h) (by rfl) (fun u hu => ?_) hHeld ?_
  · (try dsimp only at hu); go_simp
  (try simp only [Act.put, List.setIfInBounds_toArray, List.set_cons_zero, List.set_cons_succ])
  refine G_take (i := 7) (oi := { dst := some 32, op := Op.move (Operand.tmp 6), type := 3, pos := _, after := #[], guard := none }) (v := .int .i64 n) rfl (by kernel_rfl) (by kernel_rfl) (by kernel_rfl) (by kernel_rfl) (fun _ _ _ h => h) (by rfl) (fun u hu => ?_) hHeld ?_
  · (try dsimp only at hu); go_simp
  (try simp only [Act.put, List.setIfInBounds_toArray, List.set_cons_zero, List.set_cons_succ])
  refine G_take (i := 8) (oi := { dst := some 33, op := Op.slice 24 (Operand.tmp 31) none (some (Operand.tmp 32)) none, type := 24, pos := _, after := #[{ on := 6, ground := Ground.data }, { on := 7, ground := Ground.data }], guard := none }) (v := .slice (some ⟨lb, lo, none⟩) n lc) rfl (by kernel_rfl) (by kernel_rfl) (by kernel_rfl) (by kernel_rfl) (fun _ _ _ h => h) (by rfl) (fun u hu => ?_) hHeld ?_
  · (try dsimp only at hu); go_simp
  (try simp only [Act.put, List.setIfInBounds_toArray, List.set_cons_zero, List.set_cons_succ])
  refine G_step (i := 4) (o := { dst := some 29, op := Op.call { callee := Callee.value (Operand.func 60), args := #[Operand.tmp 28], argTypes := #[24] }, type := 24, pos := _, after := #[{ on := 3, ground := Ground.data }], guard := none }) (by kernel_rfl) rfl (fun K' hK => ?_)
  go_simp
  go_at_call 60
  refine C6.out.mono ?_
  rintro e w6 ⟨v6, rfl, hv6, hb6⟩
  dsimp only
  have h16 := below_cell hb6 (Nat.le_refl _) h1V
  refine hK.out _ _ (fun _ => ?_) (fun hS2 => ?_)
  · exact h16
  have hHeld2 := hS2 rfl
  clear hK K' hS2 hHeld C6
  (try simp only [Act.put, List.setIfInBounds_toArray, List.set_cons_zero, List.set_cons_succ])
  refine G_step (i := 9) (o := { dst := some 34, op := Op.call { callee := Callee.builtin Builtin.append, args := #[Operand.tmp 29, Operand.tmp 33], argTypes := #[24, 24] }, type := 24, pos := _, after := #[{ on := 4, ground := Ground.data }, { on := 8, ground := Ground.data }, { on := 4, ground := Ground.chain }], guard := none }) (by kernel_rfl) rfl (fun K' hK => ?_)
  refine step_append_U (by rfl) _ _ _ (by rfl) V.heap.size i0 Tryd.underlying24 HI.out.1 HI.out.2.1 HI.out.2.2.1 HI.out.2.2.2 v6 (m - n) (lstU (m - n) (fun i => L (n + i))) (by rfl) hv6 (some ⟨lb, lo, none⟩) n lc L (by rfl) ⟨lb, lo, fun _ => rfl, fun i hi => HLC.out w6 (HVF.out.2.2.1.trans (hb6.mono HVF.out.2.2.1.size)) i (by omega)⟩ (fun h => by cases h) (by omega) hb6.size ?_
  intro v7 w7 hown hgrow
  have hb7 : Below V.heap.size V w7 := grown_below hb6 hv6 hgrow
  have h17 := below_cell hb7 (Nat.le_refl _) h1V
  have xo7 := alloc_le hb7 HVF.out.1
  have z0 := (two_cells xo7).1
  have z1 := (two_cells xo7).2
  have f7 := fz_of xo7 1
  refine hK.out _ _ (fun _ => ?_) (fun hS2 => ?_)
  · exact h17
  have hHeld3 := hS2 rfl
  clear hK K' hS2 hHeld2
  (try simp only [Act.put, List.setIfInBounds_toArray, List.set_cons_zero, List.set_cons_succ])
  refine G_take (i := 10) (oi := { dst := some 35, op := Op.fieldAddr 28 (Operand.tmp 5) 1, type := 0, pos := _, after := #[{ on := 0, ground := Ground.phase }, { on := 1, ground := Ground.phase }, { on := 2, ground := Ground.phase }, { on := 3, ground := Ground.phase }, { on := 4, ground := Ground.phase }, { on := 5, ground := Ground.phase }, { on := 6, ground := Ground.phase }, { on := 7, ground := Ground.phase }, { on := 8, ground := Ground.phase }, { on := 9, ground := Ground.phase }], guard := none }) (v := .pointer (some ⟨ob, 1, none⟩)) rfl (by kernel_rfl) (by kernel_rfl) (by kernel_rfl) (by kernel_rfl) (fun _ _ _ h => h) (by rfl) (fun u hu => ?_) hHeld3 ?_
  · (try dsimp only at hu); go_simp
  (try simp only [Act.put, List.setIfInBounds_toArray, List.set_cons_zero, List.set_cons_succ])
  obtain ⟨_, a7, c7, rfl, q71, q72, q73, q74⟩ := rowU_of_owns hown
  refine G_step (i := 11) (o := { dst := none, op := Op.store 24 (Operand.tmp 35) (Operand.tmp 34), type := 0, pos := _, after := #[{ on := 10, ground := Ground.data }, { on := 9, ground := Ground.data }, { on := 9, ground := Ground.chain }, { on := 0, ground := Ground.phase }, { on := 1, ground := Ground.phase }, { on := 2, ground := Ground.phase }, { on := 3, ground := Ground.phase }, { on := 4, ground := Ground.phase }, { on := 5, ground := Ground.phase }, { on := 6, ground := Ground.phase }, { on := 7, ground := Ground.phase }, { on := 8, ground := Ground.phase }, { on := 9, ground := Ground.phase }], guard := none }) (by kernel_rfl) rfl (fun K' hK => ?_)
  go_simp
  refine hK.out _ _ (fun h => absurd h (by decide)) (fun _ => ?_)
  clear hK K' hHeld3
  (try simp only [Act.put, List.setIfInBounds_toArray, List.set_cons_zero, List.set_cons_succ])
  refine G_done (by kernel_rfl) ?_ _
  obtain ⟨X, hX⟩ : ∃ y, y = w7.setCell ⟨ob, 1, none⟩ (.slice a7 m c7) := ⟨_, rfl⟩
  have hbX : But ob w7 X := by rw [hX]; exact (But.refl _ _).setCell _ _
  have xoX : X.heap[ob]? = some (.cells #[.slice a5 (s + n) c5, .slice a7 m c7] 28) := by rw [hX]; exact one_set1 xo7 _
  have xrX : X.heap[w.heap.size + 1]? = some (.cells #[.slice none 0 0, .slice none 0 0] 28) := by
    have h9 := alloc_le hb7 HVF.out.2.1
    exact (hbX.block _ (Array.getElem?_eq_some_iff.1 h9).1 (by omega)).trans h9
  have hBX : Below w.heap.size w X := by
    have h9 := HVF.out.2.2.1.trans (hb7.mono HVF.out.2.2.1.size)
    exact h9.trans (hbX.below (by omega) h9.size)
  have q71' : a7 = none → m = 0 ∧ c7 = 0 := fun h => by have := q71 h; omega
  have HXF2 : Hid (Below w.heap.size w X ∧ RowU X a5 (s + n) (cat s S L) ∧ RowU X a7 m (fun i => L ((n + i) % m)) ∧ (a7 = none → m = 0 ∧ c7 = 0) ∧ m ≤ c7 ∧ (∀ y, a5 = some y → y.block ≠ w.heap.size + 1) ∧ (∀ y, a7 = some y → y.block ≠ w.heap.size + 1)) := by
    refine ⟨hBX, (HVF.out.2.2.2.1.below hb7).but hbX (fun y hy => (HVF.out.2.2.2.2.2.2 y hy).1), ?_, q71', by omega, fun y hy => by have := (HVF.out.2.2.2.2.2.2 y hy).2; have := HUS.out; omega, fun y hy => by have := q72 y hy; omega⟩
    have hr := q74 (cat (m - n) (fun i => L (n + i)) L) (fun i hi => cat_at (m - n) n _ L i (by omega))
    rw [show m - n + n = m by omega] at hr
    refine (hr.but hbX (fun y hy => by have := q72 y hy; omega)).congr (fun i hi => ?_)
    unfold cat
    by_cases e : i < m - n
    · rw [if_pos e, Nat.mod_eq_of_lt (by omega)]
    · rw [if_neg e, Nat.mod_eq_sub_mod (by omega), Nat.mod_eq_of_lt (by omega)]
      congr 1
      omega
  have y0 := (two_cells xoX).1
  have y1 := (two_cells xoX).2
  have r0 := (two_cells xrX).1
  have r1 := (two_cells xrX).2
  have e0 := fz_of xrX 0
  have e1 := fz_of xrX 1
  have HXR2 := hid xrX
  rw [← hX]
  clear hX hbX xoX xrX hBX q71 q71' q72 q73 q74 hown hgrow xo7 z0 z1 f7 h17 h16 hv6 hb6 hb7 h1V slt slf
  have hne : ob ≠ w.heap.size + 1 := by omega
  go_wp2
  obtain ⟨W, hW⟩ : ∃ y, y = (X.setCell ⟨w.heap.size + 1, 0, none⟩ (.slice a5 (s + n) c5)).setCell ⟨w.heap.size + 1, 1, none⟩ (.slice a7 m c7) := ⟨_, rfl⟩
  rw [← hW]
  have hbut : But (w.heap.size + 1) X W := by rw [hW]; exact ((But.refl _ _).setCell _ _).setCell _ _
  have hWx : W.heap[w.heap.size + 1]? = some (.cells #[.slice a5 (s + n) c5, .slice a7 m c7] 28) := by rw [hW]; exact two_set HXR2.out _ _
  refine bodyPost_ret (results_cell_row rfl _ _ (w.heap.size + 1) 28 #[.slice a5 (s + n) c5, .slice a7 m c7] (0, 0) _ rfl hWx Tryd.underlying28 rfl (by kernel_rfl)) rfl ?_
  refine ⟨a5, c5, a7, c7, rfl, HVF.out.2.2.2.2.1, HXF2.out.2.2.2.1, HVF.out.2.2.2.2.2.1, HXF2.out.2.2.2.2.1, HXF2.out.2.1.but hbut HXF2.out.2.2.2.2.2.1, HXF2.out.2.2.1.but hbut HXF2.out.2.2.2.2.2.2, ?_⟩
  exact HXF2.out.1.trans (hbut.below (by omega) HXF2.out.1.size)

end Go.Proofs.YtdncjikmknkkpaaDoor
