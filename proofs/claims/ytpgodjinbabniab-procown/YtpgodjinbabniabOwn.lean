/- Small functions, by their contracts. -/
import Derived.Test.YtpgodjinbabniabDist2J
import Derived.Test.YtpgodjinbabniabGameLeaf
namespace Go.Proofs.Ytpgodjinbabniab
open Go.RowKit

/-- 'append(v, s...)' of numbers, s a slice of whatever memory, nil too. -/
theorem wpList_append_list' {P : Program} (w : World) {ops : Array Oper} {rest : List Oper} {o : Oper} {a : Act} {Q : Exit → Act → World → Prop} (hgd : o.guard = none) (s x : Operand) (t : TypeId)
    (ho : o.op = .call { callee := .builtin .append, args := #[s, x], argTypes := #[t, t] })
    (base : Nat) (i : TypeInfo) (ht : P.underlying t = some (.slice 3)) (hi : P.info? 3 = some i) (hz : i.zero = some (.int .i64 0)) (hsize : i.size = 1) (hby : i.bytes = 8)
    (v : Value) (n : Nat) (xs : List Int) (hs : a.eval s = v) (hown : w.ownsRow base 3 1 v n (vals xs))
    (b : Option Addr) (m d : Nat) (Y : Nat → Int) (hx : a.eval x = .slice b m d) (hrow : Row w b m Y) (hnil : b = none → m = 0 ∧ d = 0) (hsum : n + m ≤ 17592186044416) (hbase : base ≤ w.heap.size)
    (h : ∀ v' w', w'.ownsRow base 3 1 v' (n + m) (vals (xs ++ lst m Y)) → w.grownBy w' v.ownBlock → wpList P ops Q rest (a.put o.dst v') w') :
    wpList P ops Q (o :: rest) a w := by
  cases b with
  | some ad =>
    refine wpList_append_own w hgd s x t ho base 3 i (.int .i64 0) 1 8 ht hi hz hsize hby rfl (by decide) v n (vals xs) hs hown ad m d (vals (lst m Y)) hx (by rw [vals_len, lst_len, Nat.mul_one]) (news_of_row hrow) (vals_one _) (by unfold maxLen; omega) (by omega) hbase ?_
    intro v' w' h1 h2 _
    refine h v' w' ?_ h2
    have : vals (xs ++ lst m Y) = vals xs ++ vals (lst m Y) := by simp [vals]
    rw [this]
    exact h1
  | none =>
    obtain ⟨rfl, rfl⟩ := hnil rfl
    have h1 := h v w (by simpa [lst] using hown) ⟨rfl, rfl, rfl, Nat.le_refl _, fun _ _ _ => rfl⟩
    refine wpList_plain hgd fun K hK => ?_
    have hr : (Builtin.append_ #[t, t] o.type #[v, .slice none 0 0]).run P w = .ok v w := by
      rcases hown.2 with ⟨rfl, rfl⟩ | ⟨g, cap, cur, rfl, _, _, hle, _⟩
      · exact run_append_none w t _ 3 i ht hi none 0 0 (Nat.le_refl _)
      · exact run_append_none w t _ 3 i ht hi (some ⟨g, 0, none⟩) n cap hle
    unfold Oper.wp execOp
    simp only [ho, resolve, invoke, builtin, Sem.run_bind, Sem.run_pure, Result.andThen_ok, List.map_toArray, List.map_cons, List.map_nil, hs, hx, hr]
    exact hK _ _ h1

theorem own_two_new (w : World) (x y : Value) (t : TypeId) (b : Nat) (hb : b = w.heap.size) : ∀ j u, [x, y][j]? = some u → (w.alloc (.cells #[x, y] t)).cell? ((⟨b, 0, none⟩ : Addr).add j) = some u := by
  subst hb
  intro j u hj
  match j, hj with
  | 0, hj => simp at hj; subst hj; simp [Addr.add]
  | 1, hj => simp at hj; subst hj; simp [Addr.add]

/-- A list of n numbers with room behind it, two 77 in the room, in memory from B on. -/
def Rm (w : World) (B : Nat) (v : Value) (n : Nat) (Z : Nat → Int) : Prop :=
  ∃ g cap cur, v = .slice (some ⟨g, 0, none⟩) n cap ∧ B ≤ g ∧ w.heap[g]? = some (.cells cur 3 (0, 0)) ∧ n + 2 ≤ cap ∧ cap ≤ maxLen ∧ cur.size = cap ∧
    (∀ i, i < n → cur[i]? = some (.int .i64 (Z i))) ∧ cur[n]? = some (.int .i64 77) ∧ cur[n + 1]? = some (.int .i64 77)

theorem rm_of_owns {w : World} {B n : Nat} {v : Value} {Z : Nat → Int} (h : w.ownsRow B 3 1 v (n + 2) (vals (lst n Z ++ [77, 77]))) :
    ∃ g cap, v = .slice (some ⟨g, 0, none⟩) (n + 2) cap ∧ n + 2 ≤ cap ∧ Rm w B (.slice (some ⟨g, 0, none⟩) n cap) n Z := by
  rcases h.2 with ⟨_, h0⟩ | ⟨g, cap, cur, rfl, hb, hg, hle, hmax, hsz, htake⟩
  · omega
  · have hget : ∀ i, i < n + 2 → cur[i]? = (vals (lst n Z ++ [77, 77]))[i]? := fun i hi => by
      rw [← htake, Nat.mul_one, List.getElem?_take_of_lt hi, Array.getElem?_toList]
    refine ⟨g, cap, rfl, hle, g, cap, cur, rfl, hb, hg, hle, hmax, by omega, fun i hi => ?_, ?_, ?_⟩
    · rw [hget i (by omega), vals, List.map_append, List.getElem?_append_left (by simpa [lst] using hi)]
      simp [lst, hi]
    · rw [hget n (by omega)]
      simp [vals, lst]
    · rw [hget (n + 1) (by omega)]
      simp [vals, lst]

theorem cell_of_block {w : World} {g i : Nat} {cur : Array Value} {t : TypeId} {z : Nat × Nat} {x : Value} (hg : w.heap[g]? = some (.cells cur t z)) (hx : cur[i]? = some x) : w.cell? ⟨g, i, none⟩ = some x := by
  simp [World.cell?, hg, hx]

theorem Rm.row {w : World} {B n : Nat} {v : Value} {Z : Nat → Int} (h : Rm w B v n Z) : ∃ a c, v = .slice a n c ∧ Row w a n Z := by
  obtain ⟨g, cap, cur, rfl, hb, hg, hle, hmax, hsz, hc, _⟩ := h
  exact ⟨_, _, rfl, g, 0, fun _ => rfl, fun i hi => by rw [Nat.zero_add]; exact cell_of_block hg (hc i hi)⟩

theorem roomy_one {w w1 : World} {v : Value} {n : Nat} {Z : Nat → Int} {o : Obj} {c : Nat} (hb : Below w.heap.size w (w.alloc o)) (hown : w1.ownsRow w.heap.size 3 1 v (0 + n) (vals ([] ++ lst n Z))) (hgrow : (w.alloc o).grownBy w1 (Value.ownBlock (.slice (some ⟨w.heap.size, 0, none⟩) 0 c))) :
    Hid (w1.ownsRow w.heap.size 3 1 v n (vals (lst n Z)) ∧ Below w.heap.size w w1 ∧ w.heap.size ≤ w1.heap.size) := by
  have h2 : Below w.heap.size w w1 := hb.grown hgrow (by simp) (fun k hk => by cases hk; exact Nat.le_refl _)
  exact ⟨by rwa [Nat.zero_add, List.nil_append] at hown, h2, h2.size⟩

theorem roomy_two {w w1 w2 : World} {v v2 : Value} {n : Nat} {Z : Nat → Int} {o : Obj} (h1 : w1.ownsRow w.heap.size 3 1 v n (vals (lst n Z))) (hb : Below w.heap.size w w1) (hown : w2.ownsRow w.heap.size 3 1 v2 (n + 2) (vals (lst n Z) ++ [.int .i64 77, .int .i64 77])) (hgrow : (w1.alloc o).grownBy w2 v.ownBlock) :
    ∃ g cap, v2 = .slice (some ⟨g, 0, none⟩) (n + 2) cap ∧ (n : Int) ≤ cap ∧ Hid (Rm w2 w.heap.size (.slice (some ⟨g, 0, none⟩) n cap) n Z ∧ Below w.heap.size w w2) := by
  have e : vals (lst n Z) ++ [.int .i64 77, .int .i64 77] = vals (lst n Z ++ [77, 77]) := by simp [vals]
  rw [e] at hown
  obtain ⟨g, cap, rfl, hle, hr⟩ := rm_of_owns hown
  exact ⟨g, cap, rfl, by omega, hid ⟨hr, hb.grown ((World.grownBy_alloc _ _ _).trans hgrow) hb.size (fun k hk => (h1.lt k hk).1)⟩⟩

set_option maxHeartbeats 400000 in
set_option maxRecDepth 20000 in
theorem roomy_any (a : Option Addr) (n c : Nat) (Z : Nat → Int) (w : World) (hn : n ≤ 17592186043904) (h : Row w a n Z) (hnil : a = none → n = 0 ∧ c = 0) :
    Calls Try.prog 33 #[.slice a n c, .int .i64 77] w fun e w' => ∃ v, e = .returned v ∧ Rm w' w.heap.size v n Z ∧ Below w.heap.size w w' := by
  have HR : Hid (Row w a n Z) := h
  have HN : Hid (a = none → n = 0 ∧ c = 0) := hnil
  clear h hnil
  obtain ⟨i0, hi, hz0, hz1, hz2⟩ := info_parts Try.info3
  have HI : Hid (Try.prog.info? 3 = some i0 ∧ i0.zero = some (.int .i64 0) ∧ i0.size = 1 ∧ i0.bytes = 8) := ⟨hi, hz0, hz1, hz2⟩
  have hmk : ∀ u : World, (Instr.makeSlice 26 (.int .i64 0) (.int .i64 ((n : Int) + 3))).run Try.prog u = .ok (.slice (some ⟨u.heap.size, 0, none⟩) 0 (n + 3)) (u.alloc (.cells (madeCells #[.int .i64 0] (n + 3)) 3)) := fun u => by
    have h := run_make (P := Try.prog) u 26 3 i0 (.int .i64 0) Try.underlying26 hi hz0 .i64 .i64 0 ((n : Int) + 3) (by omega) (by omega) (by rw [hz2]; omega) (by omega)
    have e : ((n : Int) + 3).toNat = n + 3 := by omega
    rw [e] at h
    simpa [hz1, Value.cells] using h
  clear hi hz0 hz1 hz2
  have HO : Hid ((w.alloc (.cells (madeCells #[.int .i64 0] (n + 3)) 3)).ownsRow w.heap.size 3 1 (.slice (some ⟨w.heap.size, 0, none⟩) 0 (n + 3)) 0 (vals [])) :=
    World.ownsRow_made w _ (n + 3) (Nat.le_refl _) (by unfold maxLen; omega) (by simp [size_madeCells])
  have HB : Hid (Below w.heap.size w (w.alloc (.cells (madeCells #[.int .i64 0] (n + 3)) 3))) := (Below.refl _ _).alloc (Nat.le_refl _) _
  go_enter Try.func33, Try.ntmps33
  go_wp2_with (first
    | (at_builtin; refine wpList_append_list' _ rfl _ _ 26 rfl w.heap.size i0 Try.underlying26 HI.out.1 HI.out.2.1 HI.out.2.2.1 HI.out.2.2.2 _ 0 [] rfl HO.out a n c Z rfl (HR.out.below HB.out) HN.out (by omega) (by simp) ?_; intro v' w1 hown hgrow; have H1 : Hid (w1.ownsRow w.heap.size 3 1 v' n (vals (lst n Z)) ∧ Below w.heap.size w w1 ∧ w.heap.size ≤ w1.heap.size) := roomy_one HB.out hown hgrow; clear hown hgrow)
    | (at_builtin; refine wpList_append_own _ rfl _ _ 26 rfl w.heap.size 3 i0 (.int .i64 0) 1 8 Try.underlying26 HI.out.1 HI.out.2.1 HI.out.2.2.1 HI.out.2.2.2 rfl (by decide) _ _ _ rfl (H1.out.1.alloc _) ⟨w1.heap.size, 0, none⟩ 2 2 [.int .i64 77, .int .i64 77] rfl rfl (own_two_new _ _ _ _ _ rfl) (ints_oneCell .i64 [77, 77]) (by unfold maxLen; omega) (by omega) (by have := H1.out.2.2; simp; omega) ?_; intro v2 w2 hown hgrow _; obtain ⟨g, cap, rfl, hcap, H2⟩ := roomy_two H1.out.1 H1.out.2.1 hown hgrow; clear hown hgrow H1))
  go_ret
  exact ⟨_, rfl, H2.out⟩

set_option maxHeartbeats 400000 in
theorem kept_any (g n cap : Nat) (w : World) (hn : n ≤ 17592186043904) (hc : n + 2 ≤ cap) (h1 : w.cell? ⟨g, n, none⟩ = some (.int .i64 77)) (h2 : w.cell? ⟨g, n + 1, none⟩ = some (.int .i64 77)) :
    Calls Try.prog 37 #[.slice (some ⟨g, 0, none⟩) n cap, .int .i64 77] w fun e w' => e = .returned (.bool true) ∧ w' = w := by
  have hci : (n : Int) + 2 ≤ cap := by omega
  go_enter Try.func37, Try.ntmps37
  go_wp2
  go_ret
  exact ⟨rfl, rfl⟩

theorem Rm.kept {w : World} {B n : Nat} {v : Value} {Z : Nat → Int} (hn : n ≤ 17592186043904) (h : Rm w B v n Z) : Calls Try.prog 37 #[v, .int .i64 77] w fun e w' => e = .returned (.bool true) ∧ w' = w := by
  obtain ⟨g, cap, cur, rfl, hb, hg, hle, hmax, hsz, hc, h1, h2⟩ := h
  exact kept_any g n cap w hn hle (cell_of_block hg h1) (cell_of_block hg h2)

/-- Some lists of numbers with memory from lo to below hi have been written over; all else is as it was. -/
structure Spd (lo hi : Nat) (w w' : World) : Prop where
  os : w'.os = w.os
  tape : w'.tape = w.tape
  output : w'.output = w.output
  size : w'.heap.size = w.heap.size
  out : ∀ k : Nat, k < lo ∨ hi ≤ k → w'.heap[k]? = w.heap[k]?
  other : ∀ k : Nat, (∀ c, w.heap[k]? ≠ some (Obj.cells c 3 (0, 0))) → w'.heap[k]? = w.heap[k]?
  like : ∀ (k : Nat) c, w.heap[k]? = some (Obj.cells c 3 (0, 0)) → ∃ c', w'.heap[k]? = some (Obj.cells c' 3 (0, 0)) ∧ c'.size = c.size

theorem Spd.refl (lo hi : Nat) (w : World) : Spd lo hi w w := ⟨rfl, rfl, rfl, rfl, fun _ _ => rfl, fun _ _ => rfl, fun _ c h => ⟨c, h, rfl⟩⟩

theorem Spd.set {lo hi : Nat} {w w' : World} {g k : Nat} {v : Value} {c0 : Array Value} (h : Spd lo hi w w') (h1 : lo ≤ g) (h2 : g < hi) (hg : w.heap[g]? = some (.cells c0 3 (0, 0))) : Spd lo hi w (w'.setCell ⟨g, k, none⟩ v) := by
  have ho : ∀ j, j ≠ g → (w'.setCell ⟨g, k, none⟩ v).heap[j]? = w'.heap[j]? := fun j hj => Go.Deep.blk_setCell_other _ _ _ _ hj
  refine ⟨h.os, h.tape, h.output, by rw [← h.size]; simp [World.setCell], fun j hj => ?_, fun j hj => ?_, fun j c hc => ?_⟩
  · rw [ho j (by omega)]; exact h.out j hj
  · have : j ≠ g := fun e => hj c0 (by rw [e]; exact hg)
    rw [ho j this]; exact h.other j hj
  · obtain ⟨c', h3, h4⟩ := h.like j c hc
    by_cases e : j = g
    · subst e
      exact ⟨c'.setIfInBounds k v, by simp [World.setCell, Array.getElem?_modify, h3], by simpa using h4⟩
    · exact ⟨c', by rw [ho j e]; exact h3, h4⟩

/-- A list that may be written over. -/
def Spo (w : World) (lo hi : Nat) (v : Value) : Prop :=
  v = .slice none 0 0 ∨ ∃ g n cap cur, v = .slice (some ⟨g, 0, none⟩) n cap ∧ lo ≤ g ∧ g < hi ∧ w.heap[g]? = some (.cells cur 3 (0, 0)) ∧ n ≤ cap ∧ cap ≤ maxLen ∧ cur.size = cap

theorem Spo.spd {w w' : World} {lo hi lo' hi' : Nat} {v : Value} (h : Spo w lo hi v) (s : Spd lo' hi' w w') : Spo w' lo hi v := by
  rcases h with h | ⟨g, n, cap, cur, h1, h2, h3, h4, h5, h6, h7⟩
  · exact Or.inl h
  · obtain ⟨c', h8, h9⟩ := s.like g cur h4
    exact Or.inr ⟨g, n, cap, c', h1, h2, h3, h8, h5, h6, by omega⟩

set_option maxHeartbeats 400000 in
theorem spoil_any {w : World} {lo hi : Nat} {v : Value} {x : Int} (h : Spo w lo hi v) : Calls Try.prog 38 #[v, .int .i64 x] w fun e w' => e = .returned (.tuple #[]) ∧ Spd lo hi w w' := by
  rcases h with rfl | ⟨g, n, cap, cur, rfl, hlo, hhi, hg, hle, hmax, hsz⟩
  · go_enter Try.func38, Try.ntmps38
    go_wp2
    go_loop [11] (fun i => i = .int .i64 0) (fun _ => 0)
    case atStart => rfl
    case round =>
      obtain rfl := hrel
      go_wp2
      go_end0
      exact ⟨rfl, Spd.refl _ _ _⟩
  · have HG : Hid (w.heap[g]? = some (.cells cur 3 (0, 0)) ∧ cur.size = cap) := ⟨hg, hsz⟩
    have hm : cap ≤ 9223372036854775807 := by unfold maxLen at hmax; omega
    clear hg hsz hmax
    go_enter Try.func38, Try.ntmps38
    go_wp2
    go_loopw [11] (fun i wr => ∃ k : Nat, k ≤ cap ∧ i = .int .i64 k ∧ Hid (Spd lo hi w wr)) (fun i _ => cap - (intOf i).toNat)
    case atStart => exact ⟨0, Nat.zero_le _, rfl, Spd.refl _ _ _⟩
    case round =>
      obtain ⟨k, hk, rfl, HS⟩ := hrel
      by_cases hlt : k < cap
      · have hzk : (k : Int) < cap := by omega
        obtain ⟨c', h8, h9⟩ := HS.out.like g cur HG.out.1
        obtain ⟨x, hcell⟩ : ∃ x, wr.cell? ⟨g, k, none⟩ = some x := ⟨_, cell_of_block h8 (Array.getElem?_eq_getElem (by have := HG.out.2; omega))⟩
        have hfz : wr.frozen? ⟨g, k, none⟩ = false := by simp [World.frozen?, h8]
        clear h8 h9
        go_wp2
        go_roundw
        case rel => exact ⟨k + 1, by omega, by go_num, HS.out.set hlo hhi HG.out.1⟩
        case measure => simp [intOf]; omega
      · go_wp2
        go_end0
        exact ⟨rfl, HS.out⟩

end Go.Proofs.Ytpgodjinbabniab
