/- Small things: literals in memory, slices.Equal at bools, slices.Clone, an append of nothing. -/
import Derived.Test.YtjfanphbjngfeaaReach
namespace Go.Proofs.Ytjfanphbjngfeaa
open Go.RowKit

theorem row_of_rowIs {w : World} {b n : Nat} {Z : Nat → Int} (h : w.rowIs b 3 n (fun i => .int .i64 (Z i))) : Row w (some ⟨b, 0, none⟩) n Z :=
  ⟨b, 0, fun _ => rfl, fun _ hi => by rw [Nat.zero_add]; exact h.cell hi⟩

theorem row_zero (w : World) (a : Option Addr) (Z : Nat → Int) : Row w a 0 Z := ⟨0, 0, fun h => absurd h (Nat.lt_irrefl _), fun _ hi => absurd hi (Nat.not_lt_zero _)⟩

theorem Row.congr {w : World} {a : Option Addr} {n : Nat} {Y Z : Nat → Int} (h : Row w a n Y) (e : ∀ i, i < n → Y i = Z i) : Row w a n Z := by
  obtain ⟨b, o, ha, hc⟩ := h
  exact ⟨b, o, ha, fun i hi => by rw [← e i hi]; exact hc i hi⟩

theorem rowIs_lit (w : World) (c : Array Value) (t : TypeId) (b n : Nat) (f : Nat → Value) (hb : b = w.heap.size) (hn : c.size = n) (hf : ∀ i, i < n → c[i]? = some (f i)) : (w.alloc (.cells c t)).rowIs b t n f := by
  subst hb
  subst hn
  exact World.rowIs_alloc w c t f hf

/-- In w the slice at a, of n cells, holds the bools B. -/
def Rowb (w : World) (a : Option Addr) (n : Nat) (B : Nat → Bool) : Prop :=
  ∃ b o, (0 < n → a = some ⟨b, o, none⟩) ∧ ∀ i, i < n → w.cell? ⟨b, o + i, none⟩ = some (.bool (B i))

theorem Rowb.below {w w' : World} {a : Option Addr} {n : Nat} {B : Nat → Bool} (h : Rowb w a n B) (hb : Below w.heap.size w w') : Rowb w' a n B := by
  obtain ⟨b, o, ha, hc⟩ := h
  refine ⟨b, o, ha, fun i hi => ?_⟩
  rw [hb.cell (p := ⟨b, o + i, none⟩) (World.block_lt_of_cell? _ _ (hc i hi))]
  exact hc i hi

theorem rowb_of_rowIs {w : World} {b n : Nat} {B : Nat → Bool} (h : w.rowIs b 4 n (fun i => .bool (B i))) : Rowb w (some ⟨b, 0, none⟩) n B :=
  ⟨b, 0, fun _ => rfl, fun _ hi => by rw [Nat.zero_add]; exact h.cell hi⟩

/-- Are the two lists of bools the same? -/
def sameB (n m : Nat) (Y Z : Nat → Bool) : Bool := decide (n = m ∧ ∀ i, i < n → Y i = Z i)

theorem sameB_no_len {n m : Nat} {Y Z : Nat → Bool} (h : n ≠ m) : sameB n m Y Z = false := by
  unfold sameB
  rw [decide_eq_false_iff_not]
  exact fun hh => h hh.1

theorem sameB_no {n m : Nat} {Y Z : Nat → Bool} (k : Nat) (hk : k < n) (h : Y k ≠ Z k) : sameB n m Y Z = false := by
  unfold sameB
  rw [decide_eq_false_iff_not]
  exact fun hh => h (hh.2 k hk)

theorem sameB_yes {n m : Nat} {Y Z : Nat → Bool} (e : n = m) (h : ∀ i, i < n → Y i = Z i) : sameB n m Y Z = true := by
  unfold sameB
  rw [decide_eq_true_eq]
  exact ⟨e, h⟩

set_option maxHeartbeats 400000 in
theorem equalB_any (a a' : Option Addr) (n c n' c' : Nat) (Y Z : Nat → Bool) (w : World) (hn : n ≤ 140737488355328) (h : Rowb w a n Y) (h' : Rowb w a' n' Z) :
    Calls Try.prog 19 #[.slice a n c, .slice a' n' c'] w fun e w' => e = .returned (.bool (sameB n n' Y Z)) ∧ ∃ q, w' = w.drewN q := by
  by_cases hl : n = n'
  · subst hl
    obtain ⟨b, o, ha, hc⟩ := h
    obtain ⟨b', o', ha', hc'⟩ := h'
    go_enter Try.func19, Try.ntmps19
    go_wp2
    go_loopw [13] (fun i wr => ∃ k : Nat, k ≤ n ∧ i = .int .i64 k ∧ Hid (∀ j, j < k → Y j = Z j) ∧ ∃ q, wr = w.drewN q) (fun i _ => n - (intOf i).toNat)
    case atStart => exact ⟨0, Nat.zero_le _, rfl, hid (fun j hj => absurd hj (Nat.not_lt_zero _)), 0, rfl⟩
    case round =>
      obtain ⟨k, hk, rfl, H, q, rfl⟩ := hrel
      by_cases hlt : k < n
      · obtain rfl := ha (by omega)
        obtain rfl := ha' (by omega)
        have hck := hc k hlt
        have hck' := hc' k hlt
        have hzk : (k : Int) < n := by omega
        clear hc hc' ha ha'
        by_cases h1 : Y k = Z k
        · have hb : (Y k == Z k) = true := by simp [h1]
          have E : Hid (Y k = Z k) := h1
          clear h1
          go_wp2
          go_quiet (fail)
          go_wp2
          go_roundw
          case rel => exact ⟨k + 1, by omega, by go_num, hid (snoc_all H.out E.out), _, rfl⟩
          case measure => simp [intOf]; omega
        · have hb : (Y k == Z k) = false := by simp [h1]
          have E : Hid (Y k ≠ Z k) := h1
          clear h1
          go_wp2
          go_quiet (fail)
          go_wp2
          go_ret
          exact ⟨ret_bool (sameB_no k hlt E.out).symm, _, World.drewN_drewN _ _ _⟩
      · go_wp2
        go_ret
        exact ⟨ret_bool (sameB_yes rfl (fun i hi => H.out i (by omega))).symm, q, rfl⟩
  · have hz : ((n : Int) != n') = true := by simp; omega
    have E : Hid (n ≠ n') := hl
    clear hl
    go_enter Try.func19, Try.ntmps19
    go_wp2
    go_ret
    exact ⟨ret_bool (sameB_no_len E.out).symm, 0, rfl⟩

/-- The numbers as a list. -/
def lst (n : Nat) (Z : Nat → Int) : List Int := (List.range n).map Z
theorem lst_len (n : Nat) (Z : Nat → Int) : (lst n Z).length = n := by simp [lst]
theorem lst_getD (n : Nat) (Z : Nat → Int) (i : Nat) (h : i < n) : (lst n Z).getD i 0 = Z i := by simp [lst, h]
theorem vals_len (l : List Int) : (vals l).length = l.length := by simp [vals]

theorem news_of_row {w : World} {x : Addr} {n : Nat} {Z : Nat → Int} (h : Row w (some x) n Z) : ∀ j u, (vals (lst n Z))[j]? = some u → w.cell? (x.add j) = some u := by
  intro j u hu
  obtain ⟨b, o, ha, hc⟩ := h
  have hj : j < n := by
    have := (List.getElem?_eq_some_iff.1 hu).1
    rwa [vals_len, lst_len] at this
  have hx := ha (by omega)
  simp only [Option.some.injEq] at hx
  subst hx
  have e : (vals (lst n Z))[j]? = some (.int .i64 (Z j)) := by simp [vals, lst, hj]
  rw [e] at hu
  cases hu
  have hadd : (⟨b, o, none⟩ : Addr).add j = ⟨b, o + j, none⟩ := by unfold Addr.add; split <;> simp_all
  rw [hadd]
  exact hc j hj

theorem vals_one (l : List Int) : ∀ u ∈ vals l, u.oneCell' = true := by
  intro u hu
  obtain ⟨x, _, rfl⟩ := List.mem_map.1 hu
  rfl

theorem clone_post {w w1 : World} {v' : Value} {n : Nat} {l : List Value} (hown : w1.ownsRow w.heap.size 3 1 v' (0 + n) ([] ++ l)) (hgrow : (w.alloc (.cells #[] 3)).grownBy w1 (Value.ownBlock (.slice (some ⟨w.heap.size, 0, none⟩) 0 0))) :
    Hid (w1.ownsRow w.heap.size 3 1 v' n l ∧ Below w.heap.size w w1) := by
  refine ⟨by rwa [Nat.zero_add, List.nil_append] at hown, ((Below.refl _ _).alloc (Nat.le_refl _) _).grown hgrow (by simp) (fun k hk => ?_)⟩
  simp only [Value.ownBlock, Option.some.injEq] at hk
  omega

set_option maxHeartbeats 400000 in
theorem clone_any (a : Option Addr) (n c : Nat) (Z : Nat → Int) (w : World) (hn : n * 8 ≤ 140737488355328) (h : Row w a n Z) (hnil : a = none → n = 0 ∧ c = 0) :
    Calls Try.prog 26 #[.slice a n c] w fun e w' => ∃ v, e = .returned v ∧ w'.ownsRow w.heap.size 3 1 v n (vals (lst n Z)) ∧ Below w.heap.size w w' := by
  cases a with
  | none =>
    obtain ⟨rfl, rfl⟩ := hnil rfl
    have hq := fun w' => Go.Lib.run_eql_slice_nil (P := Try.prog) w' 30 3 none 0 0 0 0 Try.underlying30
    go_enter Try.func26, Try.ntmps26
    go_wp2
    go_ret
    exact ⟨_, rfl, World.ownsRow_nil _ _ _ _, Below.refl _ _⟩
  | some x =>
    obtain ⟨i0, hi, hz0, hz1, hz2⟩ := info_parts Try.info3
    have HI : Hid (Try.prog.info? 3 = some i0 ∧ i0.zero = some (.int .i64 0) ∧ i0.size = 1 ∧ i0.bytes = 8) := ⟨hi, hz0, hz1, hz2⟩
    have HR : Hid (Row w (some x) n Z) := h
    clear hi hz0 hz1 hz2 h hnil
    have HO : Hid ((w.alloc (.cells #[] 3)).ownsRow w.heap.size 3 1 (.slice (some ⟨w.heap.size, 0, none⟩) 0 0) 0 []) := World.ownsRow_made w #[] 0 (Nat.le_refl _) (Nat.zero_le _) rfl
    have HN : Hid (∀ j u, (vals (lst n Z))[j]? = some u → (w.alloc (.cells #[] 3)).cell? (x.add j) = some u) := news_of_row (HR.out.below ((Below.refl _ _).alloc (Nat.le_refl _) _))
    have hq := fun w' => Go.Lib.run_eql_slice_nil (P := Try.prog) w' 30 3 (some x) n c 0 0 Try.underlying30
    go_enter Try.func26, Try.ntmps26
    go_wp2_with (at_builtin; refine wpList_append_own _ rfl _ _ 30 rfl w.heap.size 3 i0 (.int .i64 0) 1 8 Try.underlying30 HI.out.1 HI.out.2.1 HI.out.2.2.1 HI.out.2.2.2 rfl (by decide) _ _ _ rfl HO.out x n c (vals (lst n Z)) rfl (by rw [vals_len, lst_len, Nat.mul_one]) HN.out (vals_one _) (by unfold maxLen; omega) (by omega) (by simp) ?_; intro v' w1 hown' hgrow _; have HX := clone_post hown' hgrow; clear hown' hgrow)
    go_ret
    refine ⟨_, rfl, ?_, HX.out.2⟩
    exact HX.out.1

/-- 'append(v, nil...)'. -/
theorem run_append_none {P : Program} (w : World) (t ty e : TypeId) (i : TypeInfo) (ht : P.underlying t = some (.slice e)) (hi : P.info? e = some i) (a : Option Addr) (n cap : Nat) (h : n ≤ cap) :
    (Builtin.append_ #[t, t] ty #[.slice a n cap, .slice none 0 0]).run P w = .ok (.slice a n cap) w := by
  cases a with
  | none => simp [Builtin.append_, run_underlying ht, sizeOf, typeInfo, hi, Builtin.lenOf, Builtin.firstCells, h]
  | some x => simp [Builtin.append_, run_underlying ht, sizeOf, typeInfo, hi, Builtin.lenOf, Builtin.firstCells, h, storeCells]

/-- 'append(v, s...)' of numbers, s a slice of whatever memory, nil too. -/
theorem wpList_append_list {P : Program} (w : World) {ops : Array Oper} {rest : List Oper} {o : Oper} {a : Act} {Q : Exit → Act → World → Prop} (hgd : o.guard = none) (s x : Operand) (t : TypeId)
    (ho : o.op = .call { callee := .builtin .append, args := #[s, x], argTypes := #[t, t] })
    (base : Nat) (i : TypeInfo) (ht : P.underlying t = some (.slice 3)) (hi : P.info? 3 = some i) (hz : i.zero = some (.int .i64 0)) (hsize : i.size = 1) (hby : i.bytes = 8)
    (v : Value) (n : Nat) (xs : List Int) (hs : a.eval s = v) (hown : w.ownsRow base 3 1 v n (vals xs))
    (b : Option Addr) (m d : Nat) (Y : Nat → Int) (hx : a.eval x = .slice b m d) (hrow : Row w b m Y) (hnil : b = none → m = 0 ∧ d = 0) (hsum : n + m ≤ 4194304) (hbase : base ≤ w.heap.size)
    (h : ∀ v' w', w'.ownsRow base 3 1 v' (n + m) (vals (xs ++ lst m Y)) → w.grownBy w' v.ownBlock → wpList P ops Q rest (a.put o.dst v') w') :
    wpList P ops Q (o :: rest) a w := by
  cases b with
  | some ad =>
    refine wpList_append_own w hgd s x t ho base 3 i (.int .i64 0) 1 8 ht hi hz hsize hby rfl (by decide) v n (vals xs) hs hown ad m d (vals (lst m Y)) hx (by rw [vals_len, lst_len, Nat.mul_one]) (news_of_row hrow) (vals_one _) (by unfold maxLen; omega) (by omega) hbase ?_
    intro v' w' h1 h2 _
    refine h v' w' ?_ h2
    have : vals (xs ++ lst m Y) = vals xs ++ vals (lst m Y) := by simp [vals]
    rw [this]
    exact h1
  | none =>
    obtain ⟨rfl, rfl⟩ := hnil rfl
    have h1 := h v w (by simpa [lst] using hown) ⟨rfl, rfl, rfl, Nat.le_refl _, fun _ _ _ => rfl⟩
    refine wpList_plain hgd fun K hK => ?_
    have hr : (Builtin.append_ #[t, t] o.type #[v, .slice none 0 0]).run P w = .ok v w := by
      rcases hown.2 with ⟨rfl, rfl⟩ | ⟨g, cap, cur, rfl, _, _, hle, _⟩
      · exact run_append_none w t _ 3 i ht hi none 0 0 (Nat.le_refl _)
      · exact run_append_none w t _ 3 i ht hi (some ⟨g, 0, none⟩) n cap hle
    unfold Oper.wp execOp
    simp only [ho, resolve, invoke, builtin, Sem.run_bind, Sem.run_pure, Result.andThen_ok, List.map_toArray, List.map_cons, List.map_nil, hs, hx, hr]
    exact hK _ _ h1

end Go.Proofs.Ytjfanphbjngfeaa
