/- Nots, Plain, Slim on trees: what they make, and that it means the same. All of the first n. A region that draws its order, with a condition on the world that holds behind each operation but those that wait for all that is taken first by it. -/
import Derived.Test.YtmdpbaobihdgkaaGreatDoorChk2J
import Derived.Deep.RegionHeld
namespace Go.Proofs.YtmdpbaobihdgkaaGreatDoor
open Go.RowKit
def mkn (k n : Int) (c : Nat) (r : Nat → Fml) : Fml := ⟨k, n, c, fun i => r i.val⟩
theorem mkn_kid {k n : Int} {c : Nat} {r : Nat → Fml} {i : Nat} (h : i < c) : (mkn k n c r).kid i = r i := dif_pos h
theorem kid_none {t : Fml} {i : Nat} (h : ¬ i < t.cnt) : t.kid i = Fml.leaf := dif_neg h
theorem mkn_self (t : Fml) : mkn t.kind t.num t.cnt t.kid = t := by
 cases t with
 | mk k n c kids =>
  show (⟨k, n, c, fun i => (Fml.mk k n c kids).kid i.val⟩ : Fml) = ⟨k, n, c, kids⟩
  congr 1
  funext i
  exact dif_pos i.isLt
theorem mkn_congr {k n : Int} {c : Nat} {r q : Nat → Fml} (h : ∀ i, i < c → r i = q i) : mkn k n c r = mkn k n c q := by
 unfold mkn
 congr 1
 funext i
 exact h i.val i.isLt
theorem fml_ext {t u : Fml} (h1 : t.kind = u.kind) (h2 : t.num = u.num) (h3 : t.cnt = u.cnt) (h4 : ∀ i, i < t.cnt → t.kid i = u.kid i) : t = u := by
 rw [← mkn_self t, ← mkn_self u, ← h1, ← h2, ← h3]
 exact mkn_congr h4
def hk (A : Nat → Int → Bool) (k n : Int) (r : Nat → Nat → Prop) (i : Nat) : Prop :=
 if k = 1 then True else if k = 3 then A i n = true else if k = 4 then ¬ r 0 i else if k = 5 then r 0 i ∧ r 1 i else if k = 6 then r 0 i ∨ r 1 i
 else if k = 7 then r 0 (i + 1) else if k = 8 then ∃ j, i ≤ j ∧ r 1 j ∧ ∀ l, i ≤ l → l < j → r 0 l
 else if k = 9 then ¬ ∃ j, i ≤ j ∧ ¬ r 1 j ∧ ∀ l, i ≤ l → l < j → ¬ r 0 l
 else if k = 10 then ∃ j, i ≤ j ∧ r 0 j else if k = 11 then ¬ ∃ j, i ≤ j ∧ ¬ r 0 j else False
theorem hold_leaf (A : Nat → Int → Bool) : hold A Fml.leaf = fun _ => False := by
 funext i
 rw [hold_eq]
 simp [holdF, Fml.leaf]
theorem hold_at (A : Nat → Int → Bool) (t : Fml) (i : Nat) : hold A t i = hk A t.kind t.num (fun j => hold A (t.kid j)) i := by
 rw [hold_eq]
 have e : t.reds (fun _ => False) (holdF A) = fun j => hold A (t.kid j) := by
  funext j
  by_cases h : j < t.cnt
  ·exact hold_kid h
  ·rw [hold_none h, kid_none h, hold_leaf]
 rw [e]
 rfl
theorem hold_mkn (A : Nat → Int → Bool) {k n : Int} {c : Nat} {r : Nat → Fml} (i : Nat) : hold A (mkn k n c r) i = hk A k n (fun j => if j < c then hold A (r j) else fun _ => False) i := by
 rw [hold_at]
 have e : (fun j => hold A ((mkn k n c r).kid j)) = fun j => if j < c then hold A (r j) else fun _ => False := by
  funext j
  by_cases h : j < c
  ·rw [if_pos h, mkn_kid h]
  ·rw [if_neg h, kid_none h, hold_leaf]
 rw [e]
 rfl
theorem fit_cases {t : Fml} (h : fit t = true) : (t.kind = 3 ∧ t.cnt = 0 ∧ 0 ≤ t.num ∧ t.num ≤ 63) ∨ ((t.kind = 1 ∨ t.kind = 2) ∧ t.cnt = 0 ∧ t.num = 0) ∨ ((t.kind = 4 ∨ t.kind = 7 ∨ t.kind = 10 ∨ t.kind = 11) ∧ t.cnt = 1 ∧ t.num = 0) ∨ ((t.kind = 5 ∨ t.kind = 6 ∨ t.kind = 8 ∨ t.kind = 9) ∧ t.cnt = 2 ∧ t.num = 0) := by
 have hc := fit_parts h
 unfold fit at h
 rw [Bool.and_eq_true] at h
 have h2 := h.2
 have h1 := hc.1
 unfold ar at h1
 by_cases k3 : t.kind = 3
 ·have := hc.2 k3
  rw [if_pos (by omega)] at h1
  exact Or.inl ⟨k3, by omega, this⟩
 rw [if_neg k3, decide_eq_true_eq] at h2
 by_cases a : t.kind = 1 ∨ t.kind = 2 ∨ t.kind = 3
 ·rw [if_pos a] at h1
  exact Or.inr (Or.inl ⟨by omega, by omega, h2⟩)
 rw [if_neg a] at h1
 by_cases b : t.kind = 4 ∨ t.kind = 7 ∨ t.kind = 10 ∨ t.kind = 11
 ·rw [if_pos b] at h1
  exact Or.inr (Or.inr (Or.inl ⟨b, by omega, h2⟩))
 rw [if_neg b] at h1
 by_cases c : t.kind = 5 ∨ t.kind = 6 ∨ t.kind = 8 ∨ t.kind = 9
 ·rw [if_pos c] at h1
  exact Or.inr (Or.inr (Or.inr ⟨c, by omega, h2⟩))
 ·rw [if_neg c] at h1
  omega
end Go.Proofs.YtmdpbaobihdgkaaGreatDoor
namespace Go.Proofs.YtmdpbaobihdgkaaGreatDoor
open Go.RowKit
def allTo (r : Nat → Bool) : Nat → Bool
 | 0 => true
 | n + 1 => allTo r n && r n
theorem allTo_iff (r : Nat → Bool) : ∀ n, allTo r n = true ↔ ∀ i, i < n → r i = true
 | 0 => ⟨fun _ i hi => absurd hi (Nat.not_lt_zero i), fun _ => rfl⟩
 | n + 1 => by
  rw [allTo, Bool.and_eq_true, allTo_iff r n]
  exact ⟨fun h => snoc_all h.1 h.2, fun h => ⟨fun i hi => h i (by omega), h n (by omega)⟩⟩
theorem allTo_congr {r q : Nat → Bool} : ∀ n, (∀ i, i < n → r i = q i) → allTo r n = allTo q n
 | 0, _ => rfl
 | n + 1, h => by rw [allTo, allTo, allTo_congr n (fun i hi => h i (by omega)), h n (by omega)]
def KidsAt (w : World) (b o c : Nat) (kid : Nat → Fml) : Prop := ∀ i, i < c → ∃ ai ci,
   w.cell? ⟨b, o + i * 3, none⟩ = some (.int .i64 (kid i).kind) ∧ w.cell? ⟨b, o + i * 3 + 1, none⟩ = some (.int .i64 (kid i).num) ∧
   w.cell? ⟨b, o + i * 3 + 2, none⟩ = some (.slice ai (kid i).cnt ci) ∧ (kid i).cnt ≤ 9223372036854775807 ∧ Kds w (kid i) ai
end Go.Proofs.YtmdpbaobihdgkaaGreatDoor
namespace Go.Proofs.YtmdpbaobihdgkaaGreatDoor
section
variable {P : Program} {ops : Array Oper} {Q : Exit → Act → World → Prop} {md : Region.Mode} {S : World → Prop} {ex : Nat → Bool}
def wpAnyG (P : Program) (md : Region.Mode) (ops : Array Oper) (Q : Exit → Act → World → Prop) (S : World → Prop) (ex : Nat → Bool) : Nat → Array Bool → Act → World → Prop
 | 0, listed, a, w => Region.ready md ops listed = [] ∧ Q .normal a w
 | f + 1, listed, a, w => (Region.ready md ops listed = [] → Q .normal a w) ∧
  ∀ i ∈ Region.ready md ops listed, wpOp P ops Q i (fun a' w' => (ex i = false → S w') ∧ wpAnyG P md ops Q S ex f (listed.setIfInBounds i true) a' w') a w
theorem any_of_G : ∀ (f : Nat) (listed : Array Bool) (a : Act) (w : World), wpAnyG P md ops Q S ex f listed a w → wpAny P md ops Q f listed a w
 | 0, _, _, _, h => h
 | f + 1, _, _, _, h => ⟨h.1, fun i hi => wpOp_mono (fun a' w' h' => any_of_G f _ a' w' h'.2) (h.2 i hi)⟩
theorem G_first {i : Nat} {oi : Oper} {v : Value} (hi : ops[i]? = some oi) (hsel : ∀ (j : Nat) (o : Oper) cs b, ops[j]? = some o → o.op ≠ .select cs b)
  (hQ : ∀ c a w, Q (.panic c) (a.put oi.dst v) w → Q (.panic c) a w)
  (hex : ∀ j oj, ops[j]? = some oj → ex j = true → j ≠ i → ∃ e ∈ oj.after, Region.binds md e = true ∧ e.on = i) :
  ∀ (f : Nat) (listed : Array Bool) (a : Act) (w : World),
   (∀ j oj, ops[j]? = some oj → j ≠ i → listed.getD j true = false → (∀ e ∈ oj.after, Region.binds md e = true → e.on ≠ i) → oi.apart ops oj = true) →
   i ∈ Region.ready md ops listed → YieldsIf P ops S oi v a → S w →
   wpAnyG P md ops Q S ex f (listed.setIfInBounds i true) (a.put oi.dst v) w → wpAnyG P md ops Q S ex (f + 1) listed a w := by
 intro f
 induction f with
 | zero =>
  intro listed a w _ hr hy hS H
  refine ⟨fun h => (by rw [h] at hr; cases hr), fun j hj => ?_⟩
  by_cases hji : j = i
  ·subst hji; exact hy.wpOp hi hS ⟨fun _ => hS, H⟩
  ·have := ready_mono hj hji
   rw [H.1] at this
   cases this
 | succ f ih =>
  intro listed a w hfree hr hy hS H
  refine ⟨fun h => (by rw [h] at hr; cases hr), fun j hj => ?_⟩
  by_cases hji : j = i
  ·subst hji; exact hy.wpOp hi hS ⟨fun _ => hS, H⟩
  ·have h1 := H.2 j (ready_mono hj hji)
   obtain ⟨hun, oj, hoj, hdone⟩ := mem_ready.1 hj
   have hnot : ∀ e ∈ oj.after, Region.binds md e = true → e.on ≠ i := fun e he hb hei => by
    have h2 := hdone e he hb
    have h0 := (mem_ready.1 hr).1
    rw [hei] at h2
    by_cases hlt : i < listed.size
    ·simp [hlt] at h0 h2
     rw [h0] at h2
     cases h2
    ·simp [Array.getElem?_eq_none (Nat.le_of_not_lt hlt)] at h2
   have hexj : ex j = false := by
    cases hj2 : ex j
    ·rfl
    ·obtain ⟨e, he, hb, hon⟩ := hex j oj hoj hj2 hji
     exact absurd hon (hnot e he hb)
   have h2 := wpOp_putIf hoj (hfree j oj hoj hji hun hnot) (fun cs b => hsel i oi cs b hi) (fun cs b => hsel j oj cs b hoj) hQ hy h1
   refine wpOp_mono (fun a' w' h3 => ⟨h3.2.1, ih (listed.setIfInBounds j true) a' w' (fun k ok hk hki hku hno => hfree k ok hk hki ?_ hno) (ready_mono hr (Ne.symm hji)) h3.1 (h3.2.1 hexj) ?_⟩) h2
   ·by_cases hjk : j = k
    ·subst hjk; exact hun
    ·rwa [getD_set_ne true hjk] at hku
   ·rw [Array.setIfInBounds_comm _ _ hji]
    exact h3.2.2
def exB (md : Region.Mode) (ops : Array Oper) (ex : Nat → Bool) (i : Nat) : Bool :=
 (List.range ops.size).all fun j => !(ex j) || (j == i) || (match ops[j]? with | none => true | some o => o.after.any fun e => Region.binds md e && e.on == i)
theorem exB_spec {i : Nat} (h : exB md ops ex i = true) : ∀ j oj, ops[j]? = some oj → ex j = true → j ≠ i → ∃ e ∈ oj.after, Region.binds md e = true ∧ e.on = i := by
 intro j oj hj hx hne
 simp only [exB, List.all_eq_true, List.mem_range] at h
 have h1 := h j (jq4.1 hj).1
 simp only [hx, hj, Bool.not_true, Bool.false_or, Bool.or_eq_true, beq_iff_eq, Array.any_eq_true', Bool.and_eq_true] at h1
 rcases h1 with h1 | ⟨e, he, hb⟩
 ·exact absurd h1 hne
 ·exact ⟨e, he, hb.1, hb.2⟩
theorem G_take {i : Nat} {oi : Oper} {v : Value} {f : Nat} {listed : Array Bool} {a : Act} {w : World} (hi : ops[i]? = some oi)
  (hs : Region.noSelect ops = true) (hf : Region.free md ops listed i = true) (hr : (Region.ready md ops listed).contains i = true) (hx : exB md ops ex i = true)
  (hQ : ∀ c a w, Q (.panic c) (a.put oi.dst v) w → Q (.panic c) a w) (hw : Region.wanted oi (yielded ops a.tmps) = true) (hy : ∀ u, S u → (execOp a.eval oi).run P u = .ok (.value v) u) (hS : S w)
  (h : wpAnyG P md ops Q S ex f (listed.setIfInBounds i true) (a.put oi.dst v) w) : wpAnyG P md ops Q S ex (f + 1) listed a w :=
 G_first hi (Region.noSelect_spec hs) hQ (exB_spec hx) f listed a w (Region.free_spec hi hf) (by simpa using hr) (Or.inl ⟨hw, hy⟩) hS h
theorem G_tk {i : Nat} {oi : Oper} {v : Value} {f : Nat} {listed : Array Bool} {a : Act} {w : World} (hS : S w)
  (h : wpAnyG P md ops Q S ex f (listed.setIfInBounds i true) (a.put oi.dst v) w) (hi : ops[i]? = some oi := by rfl)
  (hs : Region.noSelect ops = true := by kernel_rfl) (hf : Region.free md ops listed i = true := by kernel_rfl) (hr : (Region.ready md ops listed).contains i = true := by kernel_rfl) (hx : exB md ops ex i = true := by kernel_rfl)
  (hQ : ∀ c a w, Q (.panic c) (a.put oi.dst v) w → Q (.panic c) a w := by exact fun _ _ _ h => h) (hw : Region.wanted oi (yielded ops a.tmps) = true := by rfl) (hy : ∀ u, S u → (execOp a.eval oi).run P u = .ok (.value v) u := by intro u hu; (try dsimp only at hu); go_simp) : wpAnyG P md ops Q S ex (f + 1) listed a w :=
 G_take hi hs hf hr hx hQ hw hy hS h
theorem G_step {i : Nat} {o : Oper} {f : Nat} {listed : Array Bool} {a : Act} {w : World} (hr : Region.ready md ops listed = [i]) (ho : ops[i]? = some o)
  (h : ∀ K' : Act → World → Prop, Shut (∀ a w, (ex i = false → S w) → ((ex i = false → S w) → wpAnyG P md ops Q S ex f (listed.setIfInBounds i true) a w) → K' a w) → if Region.wanted o (yielded ops a.tmps) = true then Oper.wp P o a w K' Q else K' (a.put o.dst undef) w) :
  wpAnyG P md ops Q S ex (f + 1) listed a w := by
 refine ⟨fun h0 => (by rw [h0] at hr; cases hr), fun j hj => ?_⟩
 rw [hr] at hj
 obtain rfl := List.mem_singleton.1 hj
 exact wpOp_step ho (fun K' hK => h K' (fun a w hS hW => hK a w ⟨hS, hW hS⟩))
theorem G_done {listed : Array Bool} {a : Act} {w : World} (hr : Region.ready md ops listed = []) (h : Q .normal a w) : ∀ f, wpAnyG P md ops Q S ex f listed a w
 | 0 => ⟨hr, h⟩
 | _ + 1 => ⟨fun _ => h, by rw [hr]; simp⟩
theorem G_region {id : Nat} {a : Act} {w : World} (S : World → Prop) (ex : Nat → Bool) (hm : P.follows .mixedOrders = true) (hS : S w.drew)
  (h : S w.drew → wpAnyG P .any ops Q S ex ops.size (Array.replicate ops.size false) a w.drew) : (Code.region id ops true).wp P Q a w :=
 wp_region_any hm (any_of_G _ _ _ _ (h hS))
end
end Go.Proofs.YtmdpbaobihdgkaaGreatDoor
