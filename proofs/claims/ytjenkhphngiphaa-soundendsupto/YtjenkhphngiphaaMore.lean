/- Small things: literals in memory, slices.Equal at bools, slices.Clone, an append of nothing. -/
import Derived.Test.YtjenkhphngiphaaReach
namespace Go.Proofs.Ytjenkhphngiphaa
open Go.RowKit

theorem row_of_rowIs {w : World} {b n : Nat} {Z : Nat → Int} (h : w.rowIs b 3 n (fun i => .int .i64 (Z i))) : Row w (some ⟨b, 0, none⟩) n Z :=
  ⟨b, 0, fun _ => rfl, fun _ hi => by rw [Nat.zero_add]; exact h.cell hi⟩

theorem row_zero (w : World) (a : Option Addr) (Z : Nat → Int) : Row w a 0 Z := ⟨0, 0, fun h => absurd h (Nat.lt_irrefl _), fun _ hi => absurd hi (Nat.not_lt_zero _)⟩

theorem Row.congr {w : World} {a : Option Addr} {n : Nat} {Y Z : Nat → Int} (h : Row w a n Y) (e : ∀ i, i < n → Y i = Z i) : Row w a n Z := by
  obtain ⟨b, o, ha, hc⟩ := h
  exact ⟨b, o, ha, fun i hi => by rw [← e i hi]; exact hc i hi⟩

theorem rowIs_lit (w : World) (c : Array Value) (t : TypeId) (b n : Nat) (f : Nat → Value) (hb : b = w.heap.size) (hn : c.size = n) (hf : ∀ i, i < n → c[i]? = some (f i)) : (w.alloc (.cells c t)).rowIs b t n f := by
  subst hb
  subst hn
  exact World.rowIs_alloc w c t f hf

/-- In w the slice at a, of n cells, holds the bools B. -/
def Rowb (w : World) (a : Option Addr) (n : Nat) (B : Nat → Bool) : Prop :=
  ∃ b o, (0 < n → a = some ⟨b, o, none⟩) ∧ ∀ i, i < n → w.cell? ⟨b, o + i, none⟩ = some (.bool (B i))

theorem Rowb.below {w w' : World} {a : Option Addr} {n : Nat} {B : Nat → Bool} (h : Rowb w a n B) (hb : Below w.heap.size w w') : Rowb w' a n B := by
  obtain ⟨b, o, ha, hc⟩ := h
  refine ⟨b, o, ha, fun i hi => ?_⟩
  rw [hb.cell (p := ⟨b, o + i, none⟩) (World.block_lt_of_cell? _ _ (hc i hi))]
  exact hc i hi

theorem rowb_of_rowIs {w : World} {b n : Nat} {B : Nat → Bool} (h : w.rowIs b 4 n (fun i => .bool (B i))) : Rowb w (some ⟨b, 0, none⟩) n B :=
  ⟨b, 0, fun _ => rfl, fun _ hi => by rw [Nat.zero_add]; exact h.cell hi⟩

/-- Are the two lists of bools the same? -/
def sameB (n m : Nat) (Y Z : Nat → Bool) : Bool := decide (n = m ∧ ∀ i, i < n → Y i = Z i)

theorem sameB_no_len {n m : Nat} {Y Z : Nat → Bool} (h : n ≠ m) : sameB n m Y Z = false := by
  unfold sameB
  rw [decide_eq_false_iff_not]
  exact fun hh => h hh.1

theorem sameB_no {n m : Nat} {Y Z : Nat → Bool} (k : Nat) (hk : k < n) (h : Y k ≠ Z k) : sameB n m Y Z = false := by
  unfold sameB
  rw [decide_eq_false_iff_not]
  exact fun hh => h (hh.2 k hk)

theorem sameB_yes {n m : Nat} {Y Z : Nat → Bool} (e : n = m) (h : ∀ i, i < n → Y i = Z i) : sameB n m Y Z = true := by
  unfold sameB
  rw [decide_eq_true_eq]
  exact ⟨e, h⟩

/-- The numbers as a list. -/
def lst (n : Nat) (Z : Nat → Int) : List Int := (List.range n).map Z
theorem lst_len (n : Nat) (Z : Nat → Int) : (lst n Z).length = n := by simp [lst]
theorem lst_getD (n : Nat) (Z : Nat → Int) (i : Nat) (h : i < n) : (lst n Z).getD i 0 = Z i := by simp [lst, h]
theorem vals_len (l : List Int) : (vals l).length = l.length := by simp [vals]

theorem news_of_row {w : World} {x : Addr} {n : Nat} {Z : Nat → Int} (h : Row w (some x) n Z) : ∀ j u, (vals (lst n Z))[j]? = some u → w.cell? (x.add j) = some u := by
  intro j u hu
  obtain ⟨b, o, ha, hc⟩ := h
  have hj : j < n := by
    have := (List.getElem?_eq_some_iff.1 hu).1
    rwa [vals_len, lst_len] at this
  have hx := ha (by omega)
  simp only [Option.some.injEq] at hx
  subst hx
  have e : (vals (lst n Z))[j]? = some (.int .i64 (Z j)) := by simp [vals, lst, hj]
  rw [e] at hu
  cases hu
  have hadd : (⟨b, o, none⟩ : Addr).add j = ⟨b, o + j, none⟩ := by unfold Addr.add; split <;> simp_all
  rw [hadd]
  exact hc j hj

theorem vals_one (l : List Int) : ∀ u ∈ vals l, u.oneCell' = true := by
  intro u hu
  obtain ⟨x, _, rfl⟩ := List.mem_map.1 hu
  rfl

theorem clone_post {w w1 : World} {v' : Value} {n : Nat} {l : List Value} (hown : w1.ownsRow w.heap.size 3 1 v' (0 + n) ([] ++ l)) (hgrow : (w.alloc (.cells #[] 3)).grownBy w1 (Value.ownBlock (.slice (some ⟨w.heap.size, 0, none⟩) 0 0))) :
    Hid (w1.ownsRow w.heap.size 3 1 v' n l ∧ Below w.heap.size w w1) := by
  refine ⟨by rwa [Nat.zero_add, List.nil_append] at hown, ((Below.refl _ _).alloc (Nat.le_refl _) _).grown hgrow (by simp) (fun k hk => ?_)⟩
  simp only [Value.ownBlock, Option.some.injEq] at hk
  omega

/-- 'append(v, nil...)'. -/
theorem run_append_none {P : Program} (w : World) (t ty e : TypeId) (i : TypeInfo) (ht : P.underlying t = some (.slice e)) (hi : P.info? e = some i) (a : Option Addr) (n cap : Nat) (h : n ≤ cap) :
    (Builtin.append_ #[t, t] ty #[.slice a n cap, .slice none 0 0]).run P w = .ok (.slice a n cap) w := by
  cases a with
  | none => simp [Builtin.append_, run_underlying ht, sizeOf, typeInfo, hi, Builtin.lenOf, Builtin.firstCells, h]
  | some x => simp [Builtin.append_, run_underlying ht, sizeOf, typeInfo, hi, Builtin.lenOf, Builtin.firstCells, h, storeCells]

/-- 'append(v, s...)' of numbers, s a slice of whatever memory, nil too. -/
theorem wpList_append_list {P : Program} (w : World) {ops : Array Oper} {rest : List Oper} {o : Oper} {a : Act} {Q : Exit → Act → World → Prop} (hgd : o.guard = none) (s x : Operand) (t : TypeId)
    (ho : o.op = .call { callee := .builtin .append, args := #[s, x], argTypes := #[t, t] })
    (base : Nat) (i : TypeInfo) (ht : P.underlying t = some (.slice 3)) (hi : P.info? 3 = some i) (hz : i.zero = some (.int .i64 0)) (hsize : i.size = 1) (hby : i.bytes = 8)
    (v : Value) (n : Nat) (xs : List Int) (hs : a.eval s = v) (hown : w.ownsRow base 3 1 v n (vals xs))
    (b : Option Addr) (m d : Nat) (Y : Nat → Int) (hx : a.eval x = .slice b m d) (hrow : Row w b m Y) (hnil : b = none → m = 0 ∧ d = 0) (hsum : n + m ≤ 4194304) (hbase : base ≤ w.heap.size)
    (h : ∀ v' w', w'.ownsRow base 3 1 v' (n + m) (vals (xs ++ lst m Y)) → w.grownBy w' v.ownBlock → wpList P ops Q rest (a.put o.dst v') w') :
    wpList P ops Q (o :: rest) a w := by
  cases b with
  | some ad =>
    refine wpList_append_own w hgd s x t ho base 3 i (.int .i64 0) 1 8 ht hi hz hsize hby rfl (by decide) v n (vals xs) hs hown ad m d (vals (lst m Y)) hx (by rw [vals_len, lst_len, Nat.mul_one]) (news_of_row hrow) (vals_one _) (by unfold maxLen; omega) (by omega) hbase ?_
    intro v' w' h1 h2 _
    refine h v' w' ?_ h2
    have : vals (xs ++ lst m Y) = vals xs ++ vals (lst m Y) := by simp [vals]
    rw [this]
    exact h1
  | none =>
    obtain ⟨rfl, rfl⟩ := hnil rfl
    have h1 := h v w (by simpa [lst] using hown) ⟨rfl, rfl, rfl, Nat.le_refl _, fun _ _ _ => rfl⟩
    refine wpList_plain hgd fun K hK => ?_
    have hr : (Builtin.append_ #[t, t] o.type #[v, .slice none 0 0]).run P w = .ok v w := by
      rcases hown.2 with ⟨rfl, rfl⟩ | ⟨g, cap, cur, rfl, _, _, hle, _⟩
      · exact run_append_none w t _ 3 i ht hi none 0 0 (Nat.le_refl _)
      · exact run_append_none w t _ 3 i ht hi (some ⟨g, 0, none⟩) n cap hle
    unfold Oper.wp execOp
    simp only [ho, resolve, invoke, builtin, Sem.run_bind, Sem.run_pure, Result.andThen_ok, List.map_toArray, List.map_cons, List.map_nil, hs, hx, hr]
    exact hK _ _ h1

end Go.Proofs.Ytjenkhphngiphaa
