/- A region that draws its order, whose last operation waits for all the others, which only read: the others in the order of the text, then the last one. -/
import Derived.Deep.Quiet
namespace Go.Proofs.Ythpbgfodejoecaa
section
variable {P : Program} {ops : Array Oper} {md : Region.Mode} {C : World → Prop}

/-- Whatever order is picked of all but number m; R when m alone is left. -/
def anyBut (P : Program) (md : Region.Mode) (ops : Array Oper) (C : World → Prop) (m : Nat) (R : Act → Prop) : Nat → Array Bool → Act → Prop
  | 0, listed, a => m ∈ Region.ready md ops listed ∧ (∀ i ∈ Region.ready md ops listed, i = m) ∧ R a
  | f + 1, listed, a => (∃ i ∈ Region.ready md ops listed, i ≠ m) ∧ ∀ i ∈ Region.ready md ops listed, i ≠ m → qOp P ops C i (anyBut P md ops C m R f (listed.setIfInBounds i true)) a

theorem anyBut_first {R : Act → Prop} {m i : Nat} {oi : Oper} {v : Value} (him : i ≠ m) (hi : ops[i]? = some oi) (hsel : ∀ (j : Nat) (o : Oper) cs b, ops[j]? = some o → o.op ≠ .select cs b) :
    ∀ (f : Nat) (listed : Array Bool) (a : Act),
      (∀ j oj, ops[j]? = some oj → j ≠ i → listed.getD j true = false → (∀ e ∈ oj.after, Region.binds md e = true → e.on ≠ i) → oi.apart ops oj = true) →
      i ∈ Region.ready md ops listed → YieldsIn P ops C oi v a →
      anyBut P md ops C m R f (listed.setIfInBounds i true) (a.put oi.dst v) → anyBut P md ops C m R (f + 1) listed a := by
  intro f
  induction f with
  | zero =>
    intro listed a _ hr hy H
    refine ⟨⟨i, hr, him⟩, fun j hj hjm => ?_⟩
    by_cases e : j = i
    · subst e; exact hy.qOp hi H
    · exact absurd (H.2.1 j (ready_mono hj e)) hjm
  | succ f ih =>
    intro listed a hfree hr hy H
    refine ⟨⟨i, hr, him⟩, fun j hj hjm => ?_⟩
    by_cases e : j = i
    · subst e; exact hy.qOp hi H
    · have hq := H.2 j (ready_mono hj e) hjm
      obtain ⟨hun, oj, hoj, hdone⟩ := mem_ready.1 hj
      have hnot : ∀ x ∈ oj.after, Region.binds md x = true → x.on ≠ i := fun x hx hb hxi => by
        have h1 := hdone x hx hb
        have h0 := (mem_ready.1 hr).1
        rw [hxi] at h1
        by_cases hlt : i < listed.size
        · simp [hlt] at h0 h1
          rw [h0] at h1
          cases h1
        · simp [Array.getElem?_eq_none (Nat.le_of_not_lt hlt)] at h1
      have hq2 := qOp_put hoj (hfree j oj hoj e hun hnot) (fun cs b => hsel i oi cs b hi) (fun cs b => hsel j oj cs b hoj) hy hq
      refine qOp_mono (fun a' h3 => ih (listed.setIfInBounds j true) a' (fun k ok hk hki hku hno => hfree k ok hk hki ?_ hno) (ready_mono hr (Ne.symm e)) h3.1 ?_) hq2
      · by_cases hjk : j = k
        · subst hjk; exact hun
        · rwa [getD_set_ne true hjk] at hku
      · rw [Array.setIfInBounds_comm _ _ e]
        exact h3.2

def lexBut (md : Region.Mode) (ops : Array Oper) (m : Nat) : Nat → Nat → Array Bool → Bool
  | 0, _, listed => (Region.ready md ops listed).contains m && (Region.ready md ops listed).all (fun i => i == m)
  | f + 1, k, listed => (Region.ready md ops listed).contains k && Region.free md ops listed k && !(k == m) && lexBut md ops m f (k + 1) (listed.setIfInBounds k true)

theorem anyBut_lex {R : Act → Prop} {m : Nat} (hs : Region.noSelect ops = true) : ∀ (l : List Oper) (k : Nat) (listed : Array Bool) (a : Act), (∀ j, j < l.length → l[j]? = ops[k + j]?) →
    lexBut md ops m l.length k listed = true → wpQuiet P ops C R l a → anyBut P md ops C m R l.length listed a
  | [], _, _, _, _, hB, h => by
    simp only [List.length_nil, lexBut, Bool.and_eq_true, List.all_eq_true, beq_iff_eq] at hB
    exact ⟨by simpa using hB.1, hB.2, h⟩
  | o :: l, k, listed, a, hl, hB, h => by
    have h0 : ops[k]? = some o := by simpa using (hl 0 (by simp)).symm
    simp only [List.length_cons, lexBut, Bool.and_eq_true] at hB
    obtain ⟨⟨⟨hr, hf⟩, hkm⟩, hB'⟩ := hB
    have hst : qOp P ops C k (wpQuiet P ops C R l) a := by unfold qOp; simp only [h0]; exact h
    obtain ⟨v, hy, hK⟩ := yieldsIn_of_qOp h0 hst
    exact anyBut_first (by simpa using hkm) h0 (Region.noSelect_spec hs) l.length listed a (Region.free_spec h0 hf) (by simpa using hr) hy
      (anyBut_lex hs l (k + 1) _ _ (fun j hj => by have := hl (j + 1) (by simpa using hj); simpa [Nat.add_assoc, Nat.add_comm 1 j] using this) hB' hK)

/-- What has come up has all that it waits for behind it. -/
def Clos (md : Region.Mode) (ops : Array Oper) (listed : Array Bool) : Prop :=
  ∀ j o, ops[j]? = some o → listed.getD j true = true → ∀ e ∈ o.after, Region.binds md e = true → listed.getD e.on false = true

theorem set_keeps (listed : Array Bool) (j x : Nat) (h : listed.getD x false = true) : (listed.setIfInBounds j true).getD x false = true := by
  by_cases e : j = x
  · subst e
    by_cases hlt : j < listed.size
    · simp [hlt]
    · simp [Array.getElem?_eq_none (Nat.le_of_not_lt hlt)] at h
  · rw [getD_set_ne false e]
    exact h

theorem clos_start (n : Nat) (hn : ops.size = n) : Clos md ops (Array.replicate n false) := by
  intro j o ho hj
  have hlt : j < n := by rw [← hn]; exact (Array.getElem?_eq_some_iff.1 ho).1
  simp [hlt] at hj

theorem clos_next {listed : Array Bool} {j : Nat} (h : Clos md ops listed) (hj : j ∈ Region.ready md ops listed) : Clos md ops (listed.setIfInBounds j true) := by
  obtain ⟨_, oj, hoj, hdone⟩ := mem_ready.1 hj
  intro k o ho hk e he hb
  refine set_keeps _ _ _ ?_
  by_cases hkj : j = k
  · subst hkj
    rw [hoj] at ho
    cases ho
    exact hdone e he hb
  · rw [getD_set_ne true hkj] at hk
    exact h k o ho hk e he hb

def waitsB (md : Region.Mode) (ops : Array Oper) (i : Nat) : Nat → Nat → Bool
  | 0, _ => false
  | f + 1, j => match ops[j]? with
    | none => false
    | some o => o.after.any fun e => Region.binds md e && (e.on == i || waitsB md ops i f e.on)

theorem getD_true_of_false {listed : Array Bool} {x : Nat} (h : listed.getD x false = true) : listed.getD x true = true := by
  by_cases hlt : x < listed.size
  · simp [hlt] at h ⊢; exact h
  · simp [Array.getElem?_eq_none (Nat.le_of_not_lt hlt)]

theorem waits_listed {listed : Array Bool} {i : Nat} (hc : Clos md ops listed) : ∀ f j o, ops[j]? = some o → (∀ e ∈ o.after, Region.binds md e = true → listed.getD e.on false = true) → waitsB md ops i f j = true → listed.getD i true = true
  | 0, _, _, _, _, h => by cases h
  | f + 1, j, o, ho, hdone, h => by
    simp only [waitsB, ho, Array.any_eq_true'] at h
    obtain ⟨e, he, hb⟩ := h
    simp only [Bool.and_eq_true, Bool.or_eq_true, beq_iff_eq] at hb
    have hl := hdone e he hb.1
    rcases hb.2 with e1 | h2
    · rw [← e1]; exact getD_true_of_false hl
    · cases ho' : ops[e.on]? with
      | none =>
        cases f with
        | zero => cases h2
        | succ f => simp [waitsB, ho'] at h2
      | some o' => exact waits_listed hc f e.on o' ho' (hc e.on o' ho' (getD_true_of_false hl)) h2

def lastB (md : Region.Mode) (ops : Array Oper) (m : Nat) : Bool :=
  Region.noSelect ops && (ops.size == m + 1) && lexBut md ops m m 0 (Array.replicate (m + 1) false) && (List.range m).all fun i => waitsB md ops i (m + 1) m

theorem any_of_but {R : Act → Prop} {Q : Exit → Act → World → Prop} {m : Nat} (hsize : ops.size = m + 1) (hwait : ∀ i, i < m → waitsB md ops i (m + 1) m = true)
    (hlast : ∀ a w, C w → R a → wpOp P ops Q m (fun a' w' => Q .normal a' w') a w) :
    ∀ (f : Nat) (listed : Array Bool) (a : Act) (w : World), Clos md ops listed → C w → anyBut P md ops C m R f listed a → wpAny P md ops Q (f + 1) listed a w := by
  have others : ∀ listed, Clos md ops listed → m ∈ Region.ready md ops listed → ∀ i, i < m → listed.getD i true = true := fun listed hc hm i hi => by
    obtain ⟨_, o, ho, hdone⟩ := mem_ready.1 hm
    exact waits_listed hc (m + 1) m o ho hdone (hwait i hi)
  have below : ∀ listed i, i ∈ Region.ready md ops listed → i ≤ m := fun listed i hi => by
    obtain ⟨_, o, ho, _⟩ := mem_ready.1 hi
    have := (Array.getElem?_eq_some_iff.1 ho).1
    omega
  intro f
  induction f with
  | zero =>
    intro listed a w hc hw ⟨hm, hall, hR⟩
    refine ⟨fun h => (by rw [h] at hm; cases hm), fun i hi => ?_⟩
    have e := hall i hi
    subst e
    refine wpOp_mono (fun a' w' h => ⟨?_, h⟩) (hlast a w hw hR)
    rw [List.eq_nil_iff_forall_not_mem]
    intro j hj
    have hjm := below _ j hj
    have hju := (mem_ready.1 hj).1
    by_cases ej : i = j
    · subst ej
      have hi0 := (mem_ready.1 hm).1
      by_cases hlt : i < listed.size
      · simp [hlt] at hju
      · simp [Array.getElem?_eq_none (Nat.le_of_not_lt hlt)] at hi0
    · rw [getD_set_ne true ej, others listed hc hm j (by omega)] at hju
      cases hju
  | succ f ih =>
    intro listed a w hc hw ⟨⟨x, hx, hxm⟩, hall⟩
    refine ⟨fun h => (by rw [h] at hx; cases hx), fun i hi => ?_⟩
    by_cases e : i = m
    · subst e
      have hxu := (mem_ready.1 hx).1
      rw [others listed hc hi x (by have := below _ x hx; omega)] at hxu
      cases hxu
    · exact wpOp_of_qOp hw (fun a' w' hw' h => ih _ a' w' (clos_next hc hi) hw' h) (hall i hi e)

theorem wp_region_last {id : Nat} {Q : Exit → Act → World → Prop} {a : Act} {w : World} {l : List Oper} (m : Nat) (o : Oper) (hm : P.follows .mixedOrders = true) (hB : lastB .any l.toArray m = true) (ho : l[m]? = some o) (hg : o.guard = none)
    (h : wpQuiet P l.toArray (fun w' => ∃ n, w' = w.drewN n) (fun a' => ∀ n, o.wp P a' (w.drewN n) (fun a'' w'' => Q .normal a'' w'') Q) (l.take m) a) : (Code.region id l.toArray true).wp P Q a w := by
  simp only [lastB, Bool.and_eq_true, List.all_eq_true, List.mem_range, beq_iff_eq] at hB
  obtain ⟨⟨⟨hs, hsize⟩, hlex⟩, hwait⟩ := hB
  have hlen : (l.take m).length = m := by
    have : l.length = m + 1 := by simpa using hsize
    simp
    omega
  have hbut : anyBut P .any l.toArray (fun w' => ∃ n, w' = w.drewN n) m (fun a' => ∀ n, o.wp P a' (w.drewN n) (fun a'' w'' => Q .normal a'' w'') Q) (l.take m).length (Array.replicate (m + 1) false) a :=
    anyBut_lex hs (l.take m) 0 _ a (fun j hj => by simp [List.getElem?_take]; intro hh; rw [hlen] at hj; omega) (by rw [hlen]; exact hlex) h
  refine wp_region_any hm ?_
  rw [hsize]
  rw [hlen] at hbut
  refine any_of_but hsize hwait (fun a' w' hw' hR => ?_) m _ a _ (clos_start (m + 1) hsize) ⟨1, rfl⟩ hbut
  obtain ⟨n, rfl⟩ := hw'
  have ho' : l.toArray[m]? = some o := by simpa using ho
  unfold wpOp
  simp only [ho', Region.wanted, hg, if_true]
  exact Or.inl (hR n)

end
end Go.Proofs.Ythpbgfodejoecaa
