/- Rest, unrolled. -/
import Derived.Test.YtdncjikmknkkpaaDoorLea2
import Derived.Test.YtdncjikmknkkpaaDoorHeld
import Derived.Test.YtdncjikmknkkpaaDoorWlk
import Derived.Maps.AppendAt
import Derived.Laws.OwnMore
namespace Go.Proofs.YtdncjikmknkkpaaDoor
open Go.RowKit

/-- 'append(v, s...)' at a step of a drawn region, s a slice of whatever memory, nil too. -/
theorem step_append_U {P : Program} {w : World} {ops : Array Oper} {o : Oper} {a : Act} {K : Act → World → Prop} {Q : Exit → Act → World → Prop} {E : Prop} (hgd : o.guard = none) (s x : Operand) (t : TypeId)
    (ho : o.op = .call { callee := .builtin .append, args := #[s, x], argTypes := #[t, t] })
    (base : Nat) (i : TypeInfo) (ht : P.underlying t = some (.slice 51)) (hi : P.info? 51 = some i) (hz : i.zero = some (.int .u64 0)) (hsize : i.size = 1) (hby : i.bytes = 8)
    (v : Value) (n : Nat) (xs : List Int) (hs : a.eval s = v) (hown : w.ownsRow base 51 1 v n (valsU xs))
    (b : Option Addr) (m c : Nat) (Y : Nat → Int) (hx : a.eval x = .slice b m c) (hrow : RowU w b m Y) (hnil : b = none → m = 0 ∧ c = 0) (hsum : n + m ≤ 4194304) (hbase : base ≤ w.heap.size)
    (h : ∀ v' w', w'.ownsRow base 51 1 v' (n + m) (valsU (xs ++ lstU m Y)) → w.grownBy w' v.ownBlock → K (a.put o.dst v') w') :
    if Region.wanted o (yielded ops a.tmps) = true then Oper.wp P o a w K Q else E := by
  have hw : Region.wanted o (yielded ops a.tmps) = true := by simp [Region.wanted, hgd]
  rw [if_pos hw]
  have hv : valsU (xs ++ lstU m Y) = valsU xs ++ valsU (lstU m Y) := by simp [valsU]
  cases b with
  | some ad =>
    obtain ⟨v', w', hr, h2, h3, _, _⟩ := run_append_own_at (P := P) w base t o.type 51 i (.int .u64 0) 1 8 ht hi hz hsize hby rfl (by decide) v n (valsU xs) hown ad m c (valsU (lstU m Y)) (by rw [valsU_len, lstU_len, Nat.mul_one]) (news_of_rowU hrow) (valsU_one _) (by unfold maxLen; omega) (by omega) hbase
    unfold Oper.wp execOp
    simp only [ho, resolve, invoke, builtin, Sem.run_bind, Sem.run_pure, Result.andThen_ok, List.map_toArray, List.map_cons, List.map_nil, hs, hx, hr]
    exact h v' w' (by rw [hv]; exact h2) h3
  | none =>
    obtain ⟨rfl, rfl⟩ := hnil rfl
    have hr := run_append_owned_none (P := P) (w := w) base t o.type 51 i 1 ht hi v n (valsU xs) hown
    unfold Oper.wp execOp
    simp only [ho, resolve, invoke, builtin, Sem.run_bind, Sem.run_pure, Result.andThen_ok, List.map_toArray, List.map_cons, List.map_nil, hs, hx, hr]
    exact h v w (by simpa [lstU] using hown) ⟨rfl, rfl, rfl, Nat.le_refl _, fun _ _ _ => rfl⟩

theorem alloc_le {w w' : World} {b : Nat} {o : Obj} (hb : Below w.heap.size w w') (h : w.heap[b]? = some o) : w'.heap[b]? = some o := (hb.block b (Array.getElem?_eq_some_iff.1 h).1).trans h

theorem rest_eq (k d : Int) (hd : 0 < d) : (if k.tmod d < 0 then k.tmod d + d else k.tmod d) = k % d := by
  have h := Int.tmod_eq_emod (a := k) (b := d)
  have h1 := Int.emod_nonneg k (show d ≠ 0 by omega)
  have h2 := Int.emod_lt_of_pos k hd
  split at h
  · rw [h, if_neg (by omega)]; omega
  · rw [h, if_pos (by omega)]; omega

set_option maxHeartbeats 400000 in
theorem rest_any (k : Int) (d : Nat) (w : World) (hd : 0 < d) (hd2 : d ≤ 1000) (_hk1 : -9223372036854775808 ≤ k) (_hk2 : k ≤ 9223372036854775807) :
    Calls Tryd.prog 61 #[.int .i64 k, .int .i64 d] w fun e w' => e = .returned (.int .i64 (k % d)) ∧ w' = w := by
  have HE := hid (rest_eq k d (by omega))
  have hd0 : ¬ d = 0 := by omega
  have b1 := Int.tmod_eq_emod (a := k) (b := (d : Int))
  have b2 := Int.emod_nonneg k (show (d : Int) ≠ 0 by omega)
  have b3 := Int.emod_lt_of_pos k (show (0 : Int) < d by omega)
  have c1 : -(d : Int) ≤ k.tmod d ∧ k.tmod d < d := by
    split at b1 <;> omega
  obtain ⟨c1, c2⟩ := c1
  clear b1 b2 b3
  have hd3 : (d : Int) ≤ 1000 := by omega
  by_cases hneg : k.tmod d < 0
  · have E2 : Hid (k.tmod d + d = k % d) := by have := HE.out; rw [if_pos hneg] at this; exact hid this
    clear HE
    go_enter Tryd.func61, Tryd.ntmps61
    go_wp2
    go_ret
    exact ⟨ret_int (by first | exact E2.out | (rw [← E2.out]; unfold wrap64; omega)), rfl⟩
  · have E2 : Hid (k.tmod d = k % d) := by have := HE.out; rw [if_neg hneg] at this; exact hid this
    clear HE
    go_enter Tryd.func61, Tryd.ntmps61
    go_wp2
    go_ret
    exact ⟨ret_int E2.out, rfl⟩

end Go.Proofs.YtdncjikmknkkpaaDoor
