/- A region that draws its order, with a condition on the world that holds behind each operation but those that wait for all that is taken first by it. A list of structs of two cells, copied. -/
import Derived.Deep.RegionHeld
import Derived.Test.YthpbgfodejoecaaGameEnJ
import Derived.Test.YthpbgfodejoecaaSndLeafJ
import Derived.Test.YthpbgfodejoecaaSteps
namespace Go.Proofs.Ythpbgfodejoecaa
section
variable {P : Program} {ops : Array Oper} {Q : Exit → Act → World → Prop} {md : Region.Mode} {S : World → Prop} {ex : Nat → Bool}

/-- Whatever order is picked; S behind each operation that ex does not name. -/
def wpAnyG (P : Program) (md : Region.Mode) (ops : Array Oper) (Q : Exit → Act → World → Prop) (S : World → Prop) (ex : Nat → Bool) : Nat → Array Bool → Act → World → Prop
  | 0, listed, a, w => Region.ready md ops listed = [] ∧ Q .normal a w
  | f + 1, listed, a, w => (Region.ready md ops listed = [] → Q .normal a w) ∧
    ∀ i ∈ Region.ready md ops listed, wpOp P ops Q i (fun a' w' => (ex i = false → S w') ∧ wpAnyG P md ops Q S ex f (listed.setIfInBounds i true) a' w') a w

theorem any_of_G : ∀ (f : Nat) (listed : Array Bool) (a : Act) (w : World), wpAnyG P md ops Q S ex f listed a w → wpAny P md ops Q f listed a w
  | 0, _, _, _, h => h
  | f + 1, _, _, _, h => ⟨h.1, fun i hi => wpOp_mono (fun a' w' h' => any_of_G f _ a' w' h'.2) (h.2 i hi)⟩

theorem G_first {i : Nat} {oi : Oper} {v : Value} (hi : ops[i]? = some oi) (hsel : ∀ (j : Nat) (o : Oper) cs b, ops[j]? = some o → o.op ≠ .select cs b)
    (hQ : ∀ c a w, Q (.panic c) (a.put oi.dst v) w → Q (.panic c) a w)
    (hex : ∀ j oj, ops[j]? = some oj → ex j = true → j ≠ i → ∃ e ∈ oj.after, Region.binds md e = true ∧ e.on = i) :
    ∀ (f : Nat) (listed : Array Bool) (a : Act) (w : World),
      (∀ j oj, ops[j]? = some oj → j ≠ i → listed.getD j true = false → (∀ e ∈ oj.after, Region.binds md e = true → e.on ≠ i) → oi.apart ops oj = true) →
      i ∈ Region.ready md ops listed → YieldsIf P ops S oi v a → S w →
      wpAnyG P md ops Q S ex f (listed.setIfInBounds i true) (a.put oi.dst v) w → wpAnyG P md ops Q S ex (f + 1) listed a w := by
  intro f
  induction f with
  | zero =>
    intro listed a w _ hr hy hS H
    refine ⟨fun h => (by rw [h] at hr; cases hr), fun j hj => ?_⟩
    by_cases hji : j = i
    · subst hji; exact hy.wpOp hi hS ⟨fun _ => hS, H⟩
    · have := ready_mono hj hji
      rw [H.1] at this
      cases this
  | succ f ih =>
    intro listed a w hfree hr hy hS H
    refine ⟨fun h => (by rw [h] at hr; cases hr), fun j hj => ?_⟩
    by_cases hji : j = i
    · subst hji; exact hy.wpOp hi hS ⟨fun _ => hS, H⟩
    · have h1 := H.2 j (ready_mono hj hji)
      obtain ⟨hun, oj, hoj, hdone⟩ := mem_ready.1 hj
      have hnot : ∀ e ∈ oj.after, Region.binds md e = true → e.on ≠ i := fun e he hb hei => by
        have h2 := hdone e he hb
        have h0 := (mem_ready.1 hr).1
        rw [hei] at h2
        by_cases hlt : i < listed.size
        · simp [hlt] at h0 h2
          rw [h0] at h2
          cases h2
        · simp [Array.getElem?_eq_none (Nat.le_of_not_lt hlt)] at h2
      have hexj : ex j = false := by
        cases hj2 : ex j
        · rfl
        · obtain ⟨e, he, hb, hon⟩ := hex j oj hoj hj2 hji
          exact absurd hon (hnot e he hb)
      have h2 := wpOp_putIf hoj (hfree j oj hoj hji hun hnot) (fun cs b => hsel i oi cs b hi) (fun cs b => hsel j oj cs b hoj) hQ hy h1
      refine wpOp_mono (fun a' w' h3 => ⟨h3.2.1, ih (listed.setIfInBounds j true) a' w' (fun k ok hk hki hku hno => hfree k ok hk hki ?_ hno) (ready_mono hr (Ne.symm hji)) h3.1 (h3.2.1 hexj) ?_⟩) h2
      · by_cases hjk : j = k
        · subst hjk; exact hun
        · rwa [getD_set_ne true hjk] at hku
      · rw [Array.setIfInBounds_comm _ _ hji]
        exact h3.2.2

/-- Does each of those wait for number i? -/
def exB (md : Region.Mode) (ops : Array Oper) (ex : Nat → Bool) (i : Nat) : Bool :=
  (List.range ops.size).all fun j => !(ex j) || (j == i) || (match ops[j]? with | none => true | some o => o.after.any fun e => Region.binds md e && e.on == i)

theorem exB_spec {i : Nat} (h : exB md ops ex i = true) : ∀ j oj, ops[j]? = some oj → ex j = true → j ≠ i → ∃ e ∈ oj.after, Region.binds md e = true ∧ e.on = i := by
  intro j oj hj hx hne
  simp only [exB, List.all_eq_true, List.mem_range] at h
  have h1 := h j (Array.getElem?_eq_some_iff.1 hj).1
  simp only [hx, hj, Bool.not_true, Bool.false_or, Bool.or_eq_true, beq_iff_eq, Array.any_eq_true', Bool.and_eq_true] at h1
  rcases h1 with h1 | ⟨e, he, hb⟩
  · exact absurd h1 hne
  · exact ⟨e, he, hb.1, hb.2⟩

theorem G_take {i : Nat} {oi : Oper} {v : Value} {f : Nat} {listed : Array Bool} {a : Act} {w : World} (hi : ops[i]? = some oi)
    (hs : Region.noSelect ops = true) (hf : Region.free md ops listed i = true) (hr : (Region.ready md ops listed).contains i = true) (hx : exB md ops ex i = true)
    (hQ : ∀ c a w, Q (.panic c) (a.put oi.dst v) w → Q (.panic c) a w) (hw : Region.wanted oi (yielded ops a.tmps) = true) (hy : ∀ u, S u → (execOp a.eval oi).run P u = .ok (.value v) u) (hS : S w)
    (h : wpAnyG P md ops Q S ex f (listed.setIfInBounds i true) (a.put oi.dst v) w) : wpAnyG P md ops Q S ex (f + 1) listed a w :=
  G_first hi (Region.noSelect_spec hs) hQ (exB_spec hx) f listed a w (Region.free_spec hi hf) (by simpa using hr) (Or.inl ⟨hw, hy⟩) hS h

/-- One alone may come up. -/
theorem G_step {i : Nat} {o : Oper} {f : Nat} {listed : Array Bool} {a : Act} {w : World} (hr : Region.ready md ops listed = [i]) (ho : ops[i]? = some o)
    (h : ∀ K' : Act → World → Prop, Shut (∀ a w, (ex i = false → S w) → ((ex i = false → S w) → wpAnyG P md ops Q S ex f (listed.setIfInBounds i true) a w) → K' a w) → if Region.wanted o (yielded ops a.tmps) = true then Oper.wp P o a w K' Q else K' (a.put o.dst undef) w) :
    wpAnyG P md ops Q S ex (f + 1) listed a w := by
  refine ⟨fun h0 => (by rw [h0] at hr; cases hr), fun j hj => ?_⟩
  rw [hr] at hj
  obtain rfl := List.mem_singleton.1 hj
  exact wpOp_step ho (fun K' hK => h K' (fun a w hS hW => hK a w ⟨hS, hW hS⟩))

theorem G_done {listed : Array Bool} {a : Act} {w : World} (hr : Region.ready md ops listed = []) (h : Q .normal a w) : ∀ f, wpAnyG P md ops Q S ex f listed a w
  | 0 => ⟨hr, h⟩
  | _ + 1 => ⟨fun _ => h, by rw [hr]; simp⟩

theorem G_region {id : Nat} {a : Act} {w : World} (S : World → Prop) (ex : Nat → Bool) (hm : P.follows .mixedOrders = true) (hS : S w.drew)
    (h : S w.drew → wpAnyG P .any ops Q S ex ops.size (Array.replicate ops.size false) a w.drew) : (Code.region id ops true).wp P Q a w :=
  wp_region_any hm (any_of_G _ _ _ _ (h hS))

end
end Go.Proofs.Ythpbgfodejoecaa

namespace Go.Proofs.Ythpbgfodejoecaa
open Go.RowKit

/-- n pairs of cells, one behind the other. -/
def vals2 (f g : Nat → Value) (n : Nat) : List Value := (List.range n).flatMap fun i => [f i, g i]

theorem vals2_succ (f g : Nat → Value) (n : Nat) : vals2 f g (n + 1) = vals2 f g n ++ [f n, g n] := by
  unfold vals2
  rw [List.range_succ, List.flatMap_append]
  simp

theorem vals2_len (f g : Nat → Value) : ∀ n, (vals2 f g n).length = n * 2
  | 0 => rfl
  | n + 1 => by rw [vals2_succ, List.length_append, vals2_len f g n]; simp; omega

theorem vals2_get (f g : Nat → Value) : ∀ n i, i < n → (vals2 f g n)[i * 2]? = some (f i) ∧ (vals2 f g n)[i * 2 + 1]? = some (g i)
  | 0, i, hi => by omega
  | n + 1, i, hi => by
    rw [vals2_succ]
    have hl := vals2_len f g n
    by_cases e : i = n
    · subst e
      rw [List.getElem?_append_right (by omega), List.getElem?_append_right (by omega), hl, Nat.sub_self, show i * 2 + 1 - i * 2 = 1 by omega]
      exact ⟨rfl, rfl⟩
    · have := vals2_get f g n i (by omega)
      rw [List.getElem?_append_left (by omega), List.getElem?_append_left (by omega)]
      exact this

theorem vals2_cell {f g : Nat → Value} {w : World} {b o : Nat} : ∀ {n}, (∀ i, i < n → w.cell? ⟨b, o + i * 2, none⟩ = some (f i) ∧ w.cell? ⟨b, o + i * 2 + 1, none⟩ = some (g i)) → ∀ j u, (vals2 f g n)[j]? = some u → w.cell? ((⟨b, o, none⟩ : Addr).add j) = some u := by
  intro n h j u hu
  have hl : j < n * 2 := by
    have := (List.getElem?_eq_some_iff.1 hu).1
    rw [vals2_len] at this
    exact this
  rw [add_none3]
  have hi : j / 2 < n := by omega
  obtain ⟨h1, h2⟩ := h (j / 2) hi
  obtain ⟨g1, g2⟩ := vals2_get f g n (j / 2) hi
  by_cases e : j % 2 = 0
  · have e2 : j / 2 * 2 = j := by omega
    rw [e2] at h1 g1
    rw [g1] at hu
    rw [h1, hu]
  · have e2 : j / 2 * 2 + 1 = j := by omega
    have e3 : o + j / 2 * 2 + 1 = o + j := by omega
    rw [e2] at g2
    rw [e3] at h2
    rw [g2] at hu
    rw [h2, hu]

theorem vals2_one {f g : Nat → Value} {n : Nat} (hf : ∀ i, (f i).oneCell' = true) (hg : ∀ i, (g i).oneCell' = true) : ∀ u ∈ vals2 f g n, u.oneCell' = true := by
  intro u hu
  unfold vals2 at hu
  obtain ⟨i, _, h⟩ := List.mem_flatMap.1 hu
  simp only [List.mem_cons, List.not_mem_nil, or_false] at h
  rcases h with rfl | rfl
  · exact hf i
  · exact hg i

theorem vals2_owns {w : World} {base n : Nat} {t : TypeId} {v : Value} {f g : Nat → Value} (h : w.ownsRow base t 2 v n (vals2 f g n)) (hn : 0 < n) :
    ∃ b c, v = .slice (some ⟨b, 0, none⟩) n c ∧ n ≤ c ∧ base ≤ b ∧ (∃ d, w.heap[b]? = some (.cells d t (0, 0))) ∧ ∀ i, i < n → w.cell? ⟨b, 0 + i * 2, none⟩ = some (f i) ∧ w.cell? ⟨b, 0 + i * 2 + 1, none⟩ = some (g i) := by
  rcases h.2 with ⟨rfl, h0⟩ | ⟨b, cap, cur, rfl, hb, hg, hcap, _⟩
  · omega
  · refine ⟨b, cap, rfl, hcap, hb, ⟨cur, hg⟩, fun i hi => ?_⟩
    obtain ⟨h1, h2⟩ := vals2_get f g n i hi
    have c1 := h.cells (g := b) rfl _ _ h1
    have c2 := h.cells (g := b) rfl _ _ h2
    rw [add_none3] at c1 c2
    exact ⟨c1, c2⟩

theorem Try.info84 : (Try.prog.info? 84).map (fun i => (i.zero, i.size, i.bytes)) = some (some (.agg #[.string ByteArray.empty, .int .i64 0]), 2, 24) := by kernel_rfl
theorem Try.info86 : (Try.prog.info? 86).map (fun i => (i.zero, i.size, i.bytes)) = some (some (.agg #[.int .i64 0, .int .i64 0]), 2, 16) := by kernel_rfl

theorem clone2_post {w w1 : World} {v' : Value} {n : Nat} {t : TypeId} {l : List Value} (hown : w1.ownsRow w.heap.size t 2 v' (0 + n) ([] ++ l)) (hgrow : (w.alloc (.cells #[] t)).grownBy w1 (Value.ownBlock (.slice (some ⟨w.heap.size, 0, none⟩) 0 0))) :
    Hid (w1.ownsRow w.heap.size t 2 v' n l ∧ Below w.heap.size w w1) := by
  refine ⟨by rwa [Nat.zero_add, List.nil_append] at hown, ((Below.refl _ _).alloc (Nat.le_refl _) _).grown hgrow (by simp) (fun k hk => ?_)⟩
  simp only [Value.ownBlock, Option.some.injEq] at hk
  omega

/-- A copy of n pairs, in a new block. -/
def Cpy (w0 : World) (n : Nat) (f g : Nat → Value) (e : Ending) (w : World) : Prop :=
  ∃ b c, e = .returned (.slice (some ⟨b, 0, none⟩) n c) ∧ n ≤ c ∧ w0.heap.size ≤ b ∧ Hid (∀ i, i < n → w.cell? ⟨b, 0 + i * 2, none⟩ = some (f i) ∧ w.cell? ⟨b, 0 + i * 2 + 1, none⟩ = some (g i))

set_option maxHeartbeats 400000 in
theorem cloneN_any {a : Option Addr} {n c : Nat} {M : Nat → ByteArray} {K : Nat → Int} {w : World} (hn : n ≤ 1000) (h0 : 0 < n) (h : Nds w a n M K) :
    Calls Try.prog 72 #[.slice a n c] w fun e w' => Cpy w n (fun i => .string (M i)) (fun i => .int .i64 (K i)) e w' ∧ Below w.heap.size w w' := by
  obtain ⟨b, o, ha, hc⟩ := h
  obtain rfl := ha h0
  obtain ⟨i0, hi, hz0, hz1, hz2⟩ := info_parts Try.info84
  have HI : Hid (Try.prog.info? 84 = some i0 ∧ i0.zero = some (.agg #[.string ByteArray.empty, .int .i64 0]) ∧ i0.size = 2 ∧ i0.bytes = 24) := ⟨hi, hz0, hz1, hz2⟩
  have HO : Hid ((w.alloc (.cells #[] 84)).ownsRow w.heap.size 84 2 (.slice (some ⟨w.heap.size, 0, none⟩) 0 0) 0 []) := World.ownsRow_made w #[] 0 (Nat.le_refl _) (Nat.zero_le _) rfl
  have HN : Hid (∀ j u, (vals2 (fun i => .string (M i)) (fun i => .int .i64 (K i)) n)[j]? = some u → (w.alloc (.cells #[] 84)).cell? ((⟨b, o, none⟩ : Addr).add j) = some u) :=
    vals2_cell (fun i hi => Nds.at hc ((Below.refl _ _).alloc (Nat.le_refl _) _) hi)
  have hq := fun w' => Go.Lib.run_eql_slice_nil (P := Try.prog) w' 22 84 (some ⟨b, o, none⟩) n c 0 0 Try.underlying22
  clear hi hz0 hz1 hz2 hc ha
  go_enter Try.func72, Try.ntmps72
  go_wp2_with (at_builtin; refine wpList_append_own _ rfl _ _ 22 rfl w.heap.size 84 i0 (.agg #[.string ByteArray.empty, .int .i64 0]) 2 24 Try.underlying22 HI.out.1 HI.out.2.1 HI.out.2.2.1 HI.out.2.2.2 rfl (by decide) _ _ _ rfl HO.out ⟨b, o, none⟩ n c (vals2 (fun i => .string (M i)) (fun i => .int .i64 (K i)) n) rfl (vals2_len _ _ _) HN.out (vals2_one (fun _ => rfl) (fun _ => rfl)) (by unfold maxLen; omega) (by omega) (by simp) ?_; intro v' w1 hown' hgrow _; have HX := clone2_post hown' hgrow; clear hown' hgrow)
  go_ret
  refine ⟨?_, HX.out.2⟩
  obtain ⟨b1, c1, rfl, h2, h3, _, h4⟩ := vals2_owns HX.out.1 h0
  exact ⟨b1, c1, rfl, h2, h3, h4⟩

set_option maxHeartbeats 400000 in
theorem cloneF_any {a : Option Addr} {n c : Nat} {A B : Nat → Int} {w : World} (hn : n ≤ 1000) (h0 : 0 < n) (h : Fls w a n A B) :
    Calls Try.prog 73 #[.slice a n c] w fun e w' => Cpy w n (fun i => .int .i64 (A i)) (fun i => .int .i64 (B i)) e w' ∧ Below w.heap.size w w' := by
  obtain ⟨b, o, ha, hc⟩ := h
  obtain rfl := ha h0
  obtain ⟨i0, hi, hz0, hz1, hz2⟩ := info_parts Try.info86
  have HI : Hid (Try.prog.info? 86 = some i0 ∧ i0.zero = some (.agg #[.int .i64 0, .int .i64 0]) ∧ i0.size = 2 ∧ i0.bytes = 16) := ⟨hi, hz0, hz1, hz2⟩
  have HO : Hid ((w.alloc (.cells #[] 86)).ownsRow w.heap.size 86 2 (.slice (some ⟨w.heap.size, 0, none⟩) 0 0) 0 []) := World.ownsRow_made w #[] 0 (Nat.le_refl _) (Nat.zero_le _) rfl
  have HN : Hid (∀ j u, (vals2 (fun i => .int .i64 (A i)) (fun i => .int .i64 (B i)) n)[j]? = some u → (w.alloc (.cells #[] 86)).cell? ((⟨b, o, none⟩ : Addr).add j) = some u) :=
    vals2_cell (fun i hi => Fls.at hc ((Below.refl _ _).alloc (Nat.le_refl _) _) hi)
  have hq := fun w' => Go.Lib.run_eql_slice_nil (P := Try.prog) w' 23 86 (some ⟨b, o, none⟩) n c 0 0 Try.underlying23
  clear hi hz0 hz1 hz2 hc ha
  go_enter Try.func73, Try.ntmps73
  go_wp2_with (at_builtin; refine wpList_append_own _ rfl _ _ 23 rfl w.heap.size 86 i0 (.agg #[.int .i64 0, .int .i64 0]) 2 16 Try.underlying23 HI.out.1 HI.out.2.1 HI.out.2.2.1 HI.out.2.2.2 rfl (by decide) _ _ _ rfl HO.out ⟨b, o, none⟩ n c (vals2 (fun i => .int .i64 (A i)) (fun i => .int .i64 (B i)) n) rfl (vals2_len _ _ _) HN.out (vals2_one (fun _ => rfl) (fun _ => rfl)) (by unfold maxLen; omega) (by omega) (by simp) ?_; intro v' w1 hown' hgrow _; have HX := clone2_post hown' hgrow; clear hown' hgrow)
  go_ret
  refine ⟨?_, HX.out.2⟩
  obtain ⟨b1, c1, rfl, h2, h3, _, h4⟩ := vals2_owns HX.out.1 h0
  exact ⟨b1, c1, rfl, h2, h3, h4⟩

end Go.Proofs.Ythpbgfodejoecaa
