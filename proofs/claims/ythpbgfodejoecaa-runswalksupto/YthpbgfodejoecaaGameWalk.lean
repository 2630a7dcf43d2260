/- Rest, sumOf, walked. -/
import Derived.Test.YthpbgfodejoecaaGameFace
namespace Go.Proofs.Ythpbgfodejoecaa
open Go.RowKit

/-- Markings along steps. -/
structure Pth (K A B : Nat → Int) (F : Nat) (l : List St3) (n : Nat) (Ms : Nat → Nat → Int) (S : Nat → Nat) : Prop where
  zero : Ms 0 = bgn K A
  ok : ∀ i, i ≤ n → ∀ j, j < F → 0 ≤ Ms i j ∧ Ms i j ≤ 9
  step : ∀ i, i < n → S i < l.length ∧ enb K A B F (Ms i) (l.getD (S i) (0, 0, 0)) ∧ Ms (i + 1) = frs K A B (l.getD (S i) (0, 0, 0)) (Ms i)

theorem bgn_ok (K A : Nat → Int) (j : Nat) : 0 ≤ bgn K A j ∧ bgn K A j ≤ 9 := by unfold bgn; split <;> omega

theorem Pth.snoc {K A B : Nat → Int} {F : Nat} {l : List St3} {n : Nat} {Ms : Nat → Nat → Int} {S : Nat → Nat} (h : Pth K A B F l n Ms S) {s : Nat} (h1 : s < l.length) (h2 : enb K A B F (Ms n) (l.getD s (0, 0, 0))) (h3 : ∀ j, j < F → frs K A B (l.getD s (0, 0, 0)) (Ms n) j ≤ 9) :
    Pth K A B F l (n + 1) (fun i => if i = n + 1 then frs K A B (l.getD s (0, 0, 0)) (Ms n) else Ms i) (fun i => if i = n then s else S i) := by
  refine ⟨by simp [h.zero], fun i hi j hj => ?_, fun i hi => ?_⟩
  · show 0 ≤ (if i = n + 1 then _ else Ms i) j ∧ (if i = n + 1 then _ else Ms i) j ≤ 9
    by_cases e : i = n + 1
    · rw [if_pos e]
      exact ⟨frs_bound h2 (h.ok n (Nat.le_refl _)) j hj, h3 j hj⟩
    · rw [if_neg e]
      exact h.ok i (by omega) j hj
  · by_cases e : i = n
    · subst e
      simp only [if_true, if_neg (show ¬ i = i + 1 by omega)]
      exact ⟨h1, h2, trivial⟩
    · simp only [if_neg e, if_neg (show ¬ i = n + 1 by omega), if_neg (show ¬ i + 1 = n + 1 by omega)]
      exact h.step i (by omega)

/-- n markings in memory, in a list of the call's own. -/
structure Mrs (w : World) (base : Nat) (v : Value) (F n : Nat) (Ms : Nat → Nat → Int) (G : Nat → Nat) : Prop where
  own : ∃ Vs, w.ownsRow base 26 1 v n Vs ∧ ∀ i, i < n → ∃ c, Vs[i]? = some (.slice (some ⟨G i, 0, none⟩) F c)
  rows : ∀ i, i < n → Mk w (G i) F (Ms i)

theorem mk_tag {w : World} {g n : Nat} {Z : Nat → Int} (h : Mk w g n Z) : ∃ c, w.heap[g]? = some (.cells c 3 (0, 0)) := by
  obtain ⟨cap, f, _, ⟨c, h2, _⟩, _⟩ := h
  exact ⟨c, h2⟩

theorem own_tag {w : World} {base n : Nat} {t : TypeId} {v : Value} {xs : List Value} (h : w.ownsRow base t 1 v n xs) {b : Nat} (hb : v.ownBlock = some b) : ∃ c, w.heap[b]? = some (.cells c t (0, 0)) := by
  rcases h.2 with ⟨rfl, _⟩ | ⟨g, cap, cur, rfl, _, hg, _⟩
  · cases hb
  · cases hb
    exact ⟨cur, hg⟩

theorem tags_ne {w : World} {a b : Nat} {c d : Array Value} (h1 : w.heap[a]? = some (.cells c 3 (0, 0))) (h2 : w.heap[b]? = some (.cells d 26 (0, 0))) : a ≠ b := by
  intro e
  subst e
  rw [h1] at h2
  simp at h2

theorem Mrs.below {w w' : World} {base : Nat} {v : Value} {F n : Nat} {Ms : Nat → Nat → Int} {G : Nat → Nat} (h : Mrs w base v F n Ms G) (hb : Below w.heap.size w w') : Mrs w' base v F n Ms G := by
  obtain ⟨⟨Vs, h1, h2⟩, h3⟩ := h
  exact ⟨⟨Vs, below_ownsRow h1 hb, h2⟩, fun i hi => (h3 i hi).below hb⟩

theorem mrs_start {w : World} {base g F c : Nat} {Z : Nat → Int} (hb : base ≤ w.heap.size) (h : Mk w g F Z) : Mrs (w.alloc (.cells #[.slice (some ⟨g, 0, none⟩) F c] 26)) base (.slice (some ⟨w.heap.size, 0, none⟩) 1 1) F 1 (fun _ => Z) (fun _ => g) := by
  refine ⟨⟨[.slice (some ⟨g, 0, none⟩) F c], ⟨rfl, Or.inr ⟨w.heap.size, 1, #[.slice (some ⟨g, 0, none⟩) F c], rfl, hb, Go.Deep.blk_alloc_new _ _, Nat.le_refl _, by unfold maxLen; omega, rfl, rfl⟩⟩, fun i hi => ?_⟩, fun i _ => h.alloc _⟩
  obtain rfl : i = 0 := by omega
  exact ⟨c, rfl⟩

/-- 'marks = append(marks, m)'. -/
theorem Mrs.app {w w1 : World} {base : Nat} {v v' : Value} {F n g c : Nat} {Ms : Nat → Nat → Int} {G : Nat → Nat} {Z : Nat → Int} {Vs : List Value} {o : Obj} (h : Mrs w base v F n Ms G) (hV : w.ownsRow base 26 1 v n Vs ∧ ∀ i, i < n → ∃ c, Vs[i]? = some (.slice (some ⟨G i, 0, none⟩) F c)) (hm : Mk w g F Z)
    (hown : w1.ownsRow base 26 1 v' (n + 1) (Vs ++ [.slice (some ⟨g, 0, none⟩) F c])) (hgrow : (w.alloc o).grownBy w1 v.ownBlock) :
    (∃ a c, v' = .slice a (n + 1) c) ∧ Hid (Mrs w1 base v' F (n + 1) (fun i => if i = n then Z else Ms i) (fun i => if i = n then g else G i)) := by
  have hg : w.grownBy w1 v.ownBlock := (World.grownBy_alloc _ _ _).trans hgrow
  have keep : ∀ {b Y}, Mk w b F Y → Mk w1 b F Y := fun {b Y} hb => hb.of_block (hg.block b hb.lt (fun e => by
    obtain ⟨d, hd⟩ := own_tag hV.1 e.symm
    obtain ⟨d2, hd2⟩ := mk_tag hb
    exact tags_ne hd2 hd rfl))
  refine ⟨?_, hid ⟨⟨_, hown, fun i hi => ?_⟩, fun i hi => ?_⟩⟩
  · rcases hown.2 with ⟨_, h0⟩ | ⟨g, cap, cur, rfl, _⟩
    · omega
    · exact ⟨_, _, rfl⟩
  · have hl : Vs.length = n := by have := hV.1.1; omega
    by_cases e : i = n
    · subst e
      exact ⟨c, by rw [List.getElem?_append_right (by omega), hl]; simp⟩
    · obtain ⟨c', hc'⟩ := hV.2 i (by omega)
      exact ⟨c', by rw [List.getElem?_append_left (by omega), hc', if_neg e]⟩
  · by_cases e : i = n
    · simp only [if_pos e]
      exact keep hm
    · simp only [if_neg e]
      exact keep (h.rows i (by omega))

theorem Mrs.gr {w : World} {base : Nat} {a : Option Addr} {c F n : Nat} {Ms : Nat → Nat → Int} {G : Nat → Nat} (h : Mrs w base (.slice a n c) F n Ms G) : Gr w a n (fun _ => F) Ms := by
  obtain ⟨⟨Vs, h1, h2⟩, h3⟩ := h
  rcases h1.2 with ⟨hv, h0⟩ | ⟨g, cap, cur, hv, _, hg, hle, _, hs, ht⟩
  · subst h0
    exact ⟨0, 0, fun hh => by omega, fun i hi => by omega⟩
  · simp only [Value.slice.injEq] at hv
    obtain ⟨rfl, _, rfl⟩ := hv
    refine ⟨g, 0, fun _ => rfl, fun i hi => ?_⟩
    obtain ⟨c', hc'⟩ := h2 i hi
    refine ⟨_, c', ?_, (h3 i hi).row⟩
    have h4 : (cur.toList.take (n * 1))[i]? = some (.slice (some ⟨G i, 0, none⟩) F c') := by rw [ht]; exact hc'
    rw [List.getElem?_take, if_pos (by omega), Array.getElem?_toList] at h4
    rw [Nat.zero_add]
    exact cell_of_cells hg h4

theorem Ans.ok {E : Int} {P : Ending → World → Prop} {e : Ending} {w : World} (h : Ans E P e w) (hE : E = 0) : P e w := by
  rcases h with h | h
  · exact absurd hE h.1
  · exact h.2

/-- What walked has made till then. -/
structure Wkd (W wr : World) (K A B : Nat → Int) (F : Nat) (l : List St3) (k : Nat) (v u : Value) (Ms : Nat → Nat → Int) (S : Nat → Nat) (G : Nat → Nat) : Prop where
  below : Below W.heap.size W wr
  mrs : Mrs wr W.heap.size v F (k + 1) Ms G
  stp : wr.ownsRow W.heap.size 3 1 u k (vals (lst k (fun i => (S i : Int))))
  sep : ∀ b, u.ownBlock = some b → ∀ i, i < k + 1 → G i ≠ b
  pth : Pth K A B F l k Ms S

theorem lst_snoc (k : Nat) (Z : Nat → Int) : lst (k + 1) Z = lst k Z ++ [Z k] := by simp [lst, List.range_succ]

theorem lst_congr {k : Nat} {Y Z : Nat → Int} (h : ∀ i, i < k → Y i = Z i) : lst k Y = lst k Z := by
  unfold lst
  exact List.map_congr_left (fun i hi => h i (List.mem_range.1 hi))

/-- 'l = append(l, k)', behind 'marks = append(marks, m)'. -/
theorem Wkd.app {W wr w2 w3 : World} {K A B : Nat → Int} {F : Nat} {l : List St3} {k : Nat} {v u v' u' : Value} {Ms : Nat → Nat → Int} {S : Nat → Nat} {G : Nat → Nat} {s g : Nat} {o : Obj} (h : Wkd W wr K A B F l k v u Ms S G)
    (h1 : s < l.length) (h2 : enb K A B F (Ms k) (l.getD s (0, 0, 0))) (h3 : ∀ j, j < F → frs K A B (l.getD s (0, 0, 0)) (Ms k) j ≤ 9) (hbg : wr.heap.size ≤ g)
    (hm : Mrs w2 W.heap.size v' F (k + 1 + 1) (fun i => if i = k + 1 then frs K A B (l.getD s (0, 0, 0)) (Ms k) else Ms i) (fun i => if i = k + 1 then g else G i)) (hb2 : Below W.heap.size W w2) (hu2 : w2.ownsRow W.heap.size 3 1 u k (vals (lst k (fun i => (S i : Int)))))
    (hown : w3.ownsRow W.heap.size 3 1 u' (k + 1) (vals (lst k (fun i => (S i : Int))) ++ [.int .i64 (s : Int)])) (hgrow : (w2.alloc o).grownBy w3 u.ownBlock) (hloc : u'.ownBlock = u.ownBlock ∨ u'.ownBlock = some (w2.alloc o).heap.size) :
    (∃ a c, u' = .slice a (k + 1) c) ∧ Hid (Wkd W w3 K A B F l (k + 1) v' u' (fun i => if i = k + 1 then frs K A B (l.getD s (0, 0, 0)) (Ms k) else Ms i) (fun i => if i = k then s else S i) (fun i => if i = k + 1 then g else G i)) := by
  have hg : w2.grownBy w3 u.ownBlock := (World.grownBy_alloc _ _ _).trans hgrow
  have hold : ∀ b, u.ownBlock = some b → b < wr.heap.size := fun b hb => (h.stp.lt b hb).2
  have hsep : ∀ b, u.ownBlock = some b → ∀ i, i < k + 1 + 1 → (if i = k + 1 then g else G i) ≠ b := fun b hb i hi => by
    by_cases e : i = k + 1
    · rw [if_pos e]
      have := hold b hb
      omega
    · rw [if_neg e]
      exact h.sep b hb i (by omega)
  obtain ⟨⟨Vs, hV1, hV2⟩, hrows⟩ := hm
  refine ⟨?_, hid ⟨hb2.grown hg hb2.size (fun b hb => (h.stp.lt b hb).1), ⟨⟨Vs, ?_, hV2⟩, fun i hi => ?_⟩, ?_, ?_, h.pth.snoc h1 h2 h3⟩⟩
  · rcases hown.2 with ⟨_, h0⟩ | ⟨g, cap, cur, rfl, _⟩
    · omega
    · exact ⟨_, _, rfl⟩
  · refine hV1.kept hg ?_
    cases hv : v'.ownBlock with
    | none => exact Or.inl rfl
    | some b =>
      refine Or.inr (fun e => ?_)
      obtain ⟨d, hd⟩ := own_tag hV1 hv
      obtain ⟨d2, hd2⟩ := own_tag hu2 e.symm
      exact tags_ne hd2 hd rfl
  · exact (hrows i hi).of_block (hg.block _ (hrows i hi).lt (fun e => hsep _ e.symm i hi rfl))
  · have e : lst (k + 1) (fun i => ((if i = k then s else S i : Nat) : Int)) = lst k (fun i => (S i : Int)) ++ [(s : Int)] := by
      rw [lst_snoc, lst_congr (k := k) (Z := fun i => (S i : Int)) (fun i hi => by rw [if_neg (by omega)])]
      simp
    rw [e, ← vals_snoc]
    exact hown
  · intro b hb i hi
    rcases hloc with hl | hl
    · exact hsep b (by rw [← hl]; exact hb) i hi
    · rw [hl] at hb
      simp only [Option.some.injEq] at hb
      have h4 := (hrows i hi).lt
      have : (w2.alloc o).heap.size = w2.heap.size + 1 := by simp
      omega

end Go.Proofs.Ythpbgfodejoecaa
