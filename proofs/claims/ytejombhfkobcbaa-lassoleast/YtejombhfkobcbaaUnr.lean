/- Rest, unrolled. -/
import Derived.Test.YtejombhfkobcbaaLea2
import Derived.Test.YtejombhfkobcbaaHeld
import Derived.Maps.AppendAt
import Derived.Laws.OwnMore
namespace Go.Proofs.Ytejombhfkobcbaa
open Go.RowKit

/-- 'append(v, s...)' at a step of a drawn region, s a slice of whatever memory, nil too. -/
theorem step_append_U {P : Program} {w : World} {ops : Array Oper} {o : Oper} {a : Act} {K : Act → World → Prop} {Q : Exit → Act → World → Prop} {E : Prop} (hgd : o.guard = none) (s x : Operand) (t : TypeId)
    (ho : o.op = .call { callee := .builtin .append, args := #[s, x], argTypes := #[t, t] })
    (base : Nat) (i : TypeInfo) (ht : P.underlying t = some (.slice 34)) (hi : P.info? 34 = some i) (hz : i.zero = some (.int .u64 0)) (hsize : i.size = 1) (hby : i.bytes = 8)
    (v : Value) (n : Nat) (xs : List Int) (hs : a.eval s = v) (hown : w.ownsRow base 34 1 v n (valsU xs))
    (b : Option Addr) (m c : Nat) (Y : Nat → Int) (hx : a.eval x = .slice b m c) (hrow : RowU w b m Y) (hnil : b = none → m = 0 ∧ c = 0) (hsum : n + m ≤ 4194304) (hbase : base ≤ w.heap.size)
    (h : ∀ v' w', w'.ownsRow base 34 1 v' (n + m) (valsU (xs ++ lstU m Y)) → w.grownBy w' v.ownBlock → K (a.put o.dst v') w') :
    if Region.wanted o (yielded ops a.tmps) = true then Oper.wp P o a w K Q else E := by
  have hw : Region.wanted o (yielded ops a.tmps) = true := by simp [Region.wanted, hgd]
  rw [if_pos hw]
  have hv : valsU (xs ++ lstU m Y) = valsU xs ++ valsU (lstU m Y) := by simp [valsU]
  cases b with
  | some ad =>
    obtain ⟨v', w', hr, h2, h3, _, _⟩ := run_append_own_at (P := P) w base t o.type 34 i (.int .u64 0) 1 8 ht hi hz hsize hby rfl (by decide) v n (valsU xs) hown ad m c (valsU (lstU m Y)) (by rw [valsU_len, lstU_len, Nat.mul_one]) (news_of_rowU hrow) (valsU_one _) (by unfold maxLen; omega) (by omega) hbase
    unfold Oper.wp execOp
    simp only [ho, resolve, invoke, builtin, Sem.run_bind, Sem.run_pure, Result.andThen_ok, List.map_toArray, List.map_cons, List.map_nil, hs, hx, hr]
    exact h v' w' (by rw [hv]; exact h2) h3
  | none =>
    obtain ⟨rfl, rfl⟩ := hnil rfl
    have hr := run_append_owned_none (P := P) (w := w) base t o.type 34 i 1 ht hi v n (valsU xs) hown
    unfold Oper.wp execOp
    simp only [ho, resolve, invoke, builtin, Sem.run_bind, Sem.run_pure, Result.andThen_ok, List.map_toArray, List.map_cons, List.map_nil, hs, hx, hr]
    exact h v w (by simpa [lstU] using hown) ⟨rfl, rfl, rfl, Nat.le_refl _, fun _ _ _ => rfl⟩

theorem owns_below {w w' : World} {base n : Nat} {e : TypeId} {v : Value} {xs : List Value} (h : w.ownsRow base e 1 v n xs) (hb : Below w.heap.size w w') : w'.ownsRow base e 1 v n xs := by
  refine ⟨h.1, ?_⟩
  rcases h.2 with h0 | ⟨g, cap, cur, h1, h2, h3, h4⟩
  · exact Or.inl h0
  · exact Or.inr ⟨g, cap, cur, h1, h2, (hb.block g (Array.getElem?_eq_some_iff.1 h3).1).trans h3, h4⟩
theorem alloc_le {w w' : World} {b : Nat} {o : Obj} (hb : Below w.heap.size w w') (h : w.heap[b]? = some o) : w'.heap[b]? = some o := (hb.block b (Array.getElem?_eq_some_iff.1 h).1).trans h

theorem rest_eq (k d : Int) (hd : 0 < d) : (if k.tmod d < 0 then k.tmod d + d else k.tmod d) = k % d := by
  have h := Int.tmod_eq_emod (a := k) (b := d)
  have h1 := Int.emod_nonneg k (show d ≠ 0 by omega)
  have h2 := Int.emod_lt_of_pos k hd
  split at h
  · rw [h, if_neg (by omega)]; omega
  · rw [h, if_pos (by omega)]; omega

end Go.Proofs.Ytejombhfkobcbaa
