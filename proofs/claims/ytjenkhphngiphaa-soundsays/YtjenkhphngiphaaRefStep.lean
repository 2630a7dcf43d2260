/- The document's May and Fire, at a step of the list. -/
import Derived.Test.YtjenkhphngiphaaGameLayJ
import Derived.Test.YtjenkhphngiphaaRefEn
import Derived.Test.YtjenkhphngiphaaRefFire2
namespace Go.Proofs.Ytjenkhphngiphaa
open Go.RowKit

theorem ans_cases {E : Int} {P : Ending → World → Prop} {e : Ending} {w : World} (h : Ans E P e w) : (E ≠ 0 ∧ e = .returned (.tuple #[.slice none 0 0, .int .i64 E])) ∨ (E = 0 ∧ P e w) := h

/-- What steps.Of and the document's Steps answer, by their error. -/
theorem spAns {e0 : Int} {l : List St3} {e : Ending} {w : World} (h : SpIs e0 l e w) :
    (spE e0 l.length ≠ 0 ∧ e = .returned (.tuple #[.slice none 0 0, .int .i64 (spE e0 l.length)])) ∨ (spE e0 l.length = 0 ∧ ∃ a c, e = .returned (.tuple #[.slice a l.length c, .int .i64 0]) ∧ Sts w a l.length (fun i => l.getD i (0, 0, 0))) := by
  rcases h with ⟨h1, rfl⟩ | ⟨rfl, h2, rfl⟩ | ⟨rfl, h2, a, c, rfl, _, h4⟩
  · rw [spE_bad h1]; exact Or.inl ⟨h1, rfl⟩
  · rw [spE_many h2]; exact Or.inl ⟨by decide, rfl⟩
  · rw [spE_ok h2]; exact Or.inr ⟨rfl, a, c, rfl, h4⟩

theorem equal_true {a a' : Option Addr} {n c c' : Nat} {Y Z : Nat → Int} {w : World} (hn : n ≤ 140737488355328) (h : Row w a n Y) (h' : Row w a' n Z) (e : ∀ i, i < n → Y i = Z i) :
    Calls Try.prog 13 #[.slice a n c, .slice a' n c'] w fun e w' => e = .returned (.bool true) ∧ Below w.heap.size w w' := by
  refine (equal_any a a' n c n c' Y Z w hn h h').mono fun x w' ⟨h1, q, h2⟩ => ⟨?_, ?_⟩
  · rw [h1, same_yes rfl e]
  · rw [h2]; exact below_drewn (Below.refl _ _) q

theorem rf_tuple {K A B : Nat → Int} {F : Nat} {m : Nat → Int} {t : St3} {e : Ending} {w : World} (h : RfIs K A B F m t e w) : ∃ v1 v2, e = .returned (.tuple #[v1, v2]) := by
  rcases h with ⟨_, rfl⟩ | ⟨_, g, c, rfl, _⟩ <;> exact ⟨_, _, rfl⟩

theorem ref_step {N F : Nat} {M : Nat → ByteArray} {K A B : Nat → Int} (he : ChkIs N F M K A B 0) {s : Nat} (hs : s < (stAll K A B F N).length) :
    ∃ (j : Nat) (x o : Int), (stAll K A B F N).getD s (0, 0, 0) = ((j : Int), x, o) ∧
      (∀ (u : World) (na fa ma : Option Addr) (nc fc mc : Nat) (m : Nat → Int) (b : Bool), Prc u na N nc fa F M K A B → Row u ma F m → (b = true ↔ enb K A B F m ((stAll K A B F N).getD s (0, 0, 0))) →
        Calls Try.prog 54 #[.agg #[.slice na N nc, .slice fa F fc], .slice ma F mc, .agg #[.int .i64 j, .int .i64 x, .int .i64 o]] u fun e w' => e = .returned (.bool b) ∧ Below u.heap.size u w') ∧
      (∀ (u : World) (na fa ma : Option Addr) (nc fc mc : Nat) (m : Nat → Int), Prc u na N nc fa F M K A B → Row u ma F m → (∀ i, i < F → 0 ≤ m i ∧ m i ≤ 9) →
        Calls Try.prog 29 #[.agg #[.slice na N nc, .slice fa F fc], .slice ma F mc, .agg #[.int .i64 j, .int .i64 x, .int .i64 o]] u fun e w' => Below u.heap.size u w' ∧ RfIs K A B F m ((stAll K A B F N).getD s (0, 0, 0)) e w') := by
  have hF30 : F ≤ 30 := (chk_zero he).1.2
  have hF0 : 0 < F := chk_some he
  obtain ⟨j, hj, h1, h2, h3, _⟩ := step_facts (getD3_mem hs)
  obtain ⟨t, ht⟩ : ∃ t, t = (stAll K A B F N).getD s (0, 0, 0) := ⟨_, rfl⟩
  rw [← ht] at h1 h2 h3 ⊢
  obtain ⟨t1, x, o⟩ := t
  simp only at h1 h2 h3
  subst h1
  have hxn : x < (F : Int) := by rcases h2 with h2 | ⟨q, h2, h5, _⟩ <;> omega
  refine ⟨j, x, o, rfl, fun u na fa ma nc fc mc m b hp hm hb => ?_, fun u na fa ma nc fc mc m hp hm h9 => ?_⟩
  · refine (may_any hp hF30 hm hj hxn).mono fun e w' ⟨⟨y, h1, h2⟩, h3⟩ => ⟨?_, h3⟩
    have : y = b := by
      rw [Bool.eq_iff_iff]
      exact h2.trans hb.symm
    rw [h1, this]
  · refine fireRef_any hp hF30 hm h9 hj (fun q hq => ?_) h3
    rcases h2 with h2 | ⟨p, h2, _, h5⟩
    · omega
    · obtain rfl : p = q := by omega
      exact h5

end Go.Proofs.Ytjenkhphngiphaa
