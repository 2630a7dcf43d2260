/- A list of structs of two cells, copied. -/
import Derived.Test.YtjenkhphngiphaaGameLeaf
import Derived.Test.YtjenkhphngiphaaProc6
import Derived.Test.YtjenkhphngiphaaSteps
namespace Go.Proofs.Ytjenkhphngiphaa
open Go.RowKit

/-- n pairs of cells, one behind the other. -/
def vals2 (f g : Nat → Value) (n : Nat) : List Value := (List.range n).flatMap fun i => [f i, g i]

theorem vals2_succ (f g : Nat → Value) (n : Nat) : vals2 f g (n + 1) = vals2 f g n ++ [f n, g n] := by
  unfold vals2
  rw [List.range_succ, List.flatMap_append]
  simp

theorem vals2_len (f g : Nat → Value) : ∀ n, (vals2 f g n).length = n * 2
  | 0 => rfl
  | n + 1 => by rw [vals2_succ, List.length_append, vals2_len f g n]; simp; omega

theorem vals2_get (f g : Nat → Value) : ∀ n i, i < n → (vals2 f g n)[i * 2]? = some (f i) ∧ (vals2 f g n)[i * 2 + 1]? = some (g i)
  | 0, i, hi => by omega
  | n + 1, i, hi => by
    rw [vals2_succ]
    have hl := vals2_len f g n
    by_cases e : i = n
    · subst e
      rw [List.getElem?_append_right (by omega), List.getElem?_append_right (by omega), hl, Nat.sub_self, show i * 2 + 1 - i * 2 = 1 by omega]
      exact ⟨rfl, rfl⟩
    · have := vals2_get f g n i (by omega)
      rw [List.getElem?_append_left (by omega), List.getElem?_append_left (by omega)]
      exact this

theorem vals2_cell {f g : Nat → Value} {w : World} {b o : Nat} : ∀ {n}, (∀ i, i < n → w.cell? ⟨b, o + i * 2, none⟩ = some (f i) ∧ w.cell? ⟨b, o + i * 2 + 1, none⟩ = some (g i)) → ∀ j u, (vals2 f g n)[j]? = some u → w.cell? ((⟨b, o, none⟩ : Addr).add j) = some u := by
  intro n h j u hu
  have hl : j < n * 2 := by
    have := (List.getElem?_eq_some_iff.1 hu).1
    rw [vals2_len] at this
    exact this
  rw [add_none3]
  have hi : j / 2 < n := by omega
  obtain ⟨h1, h2⟩ := h (j / 2) hi
  obtain ⟨g1, g2⟩ := vals2_get f g n (j / 2) hi
  by_cases e : j % 2 = 0
  · have e2 : j / 2 * 2 = j := by omega
    rw [e2] at h1 g1
    rw [g1] at hu
    rw [h1, hu]
  · have e2 : j / 2 * 2 + 1 = j := by omega
    have e3 : o + j / 2 * 2 + 1 = o + j := by omega
    rw [e2] at g2
    rw [e3] at h2
    rw [g2] at hu
    rw [h2, hu]

theorem vals2_one {f g : Nat → Value} {n : Nat} (hf : ∀ i, (f i).oneCell' = true) (hg : ∀ i, (g i).oneCell' = true) : ∀ u ∈ vals2 f g n, u.oneCell' = true := by
  intro u hu
  unfold vals2 at hu
  obtain ⟨i, _, h⟩ := List.mem_flatMap.1 hu
  simp only [List.mem_cons, List.not_mem_nil, or_false] at h
  rcases h with rfl | rfl
  · exact hf i
  · exact hg i

theorem vals2_owns {w : World} {base n : Nat} {t : TypeId} {v : Value} {f g : Nat → Value} (h : w.ownsRow base t 2 v n (vals2 f g n)) (hn : 0 < n) :
    ∃ b c, v = .slice (some ⟨b, 0, none⟩) n c ∧ n ≤ c ∧ base ≤ b ∧ (∃ d, w.heap[b]? = some (.cells d t (0, 0))) ∧ ∀ i, i < n → w.cell? ⟨b, 0 + i * 2, none⟩ = some (f i) ∧ w.cell? ⟨b, 0 + i * 2 + 1, none⟩ = some (g i) := by
  rcases h.2 with ⟨rfl, h0⟩ | ⟨b, cap, cur, rfl, hb, hg, hcap, _⟩
  · omega
  · refine ⟨b, cap, rfl, hcap, hb, ⟨cur, hg⟩, fun i hi => ?_⟩
    obtain ⟨h1, h2⟩ := vals2_get f g n i hi
    have c1 := h.cells (g := b) rfl _ _ h1
    have c2 := h.cells (g := b) rfl _ _ h2
    rw [add_none3] at c1 c2
    exact ⟨c1, c2⟩

theorem Try.info77 : (Try.prog.info? 77).map (fun i => (i.zero, i.size, i.bytes)) = some (some (.agg #[.string ByteArray.empty, .int .i64 0]), 2, 24) := by kernel_rfl
theorem Try.info83 : (Try.prog.info? 83).map (fun i => (i.zero, i.size, i.bytes)) = some (some (.agg #[.int .i64 0, .int .i64 0]), 2, 16) := by kernel_rfl

theorem clone2_post {w w1 : World} {v' : Value} {n : Nat} {t : TypeId} {l : List Value} (hown : w1.ownsRow w.heap.size t 2 v' (0 + n) ([] ++ l)) (hgrow : (w.alloc (.cells #[] t)).grownBy w1 (Value.ownBlock (.slice (some ⟨w.heap.size, 0, none⟩) 0 0))) :
    Hid (w1.ownsRow w.heap.size t 2 v' n l ∧ Below w.heap.size w w1) := by
  refine ⟨by rwa [Nat.zero_add, List.nil_append] at hown, ((Below.refl _ _).alloc (Nat.le_refl _) _).grown hgrow (by simp) (fun k hk => ?_)⟩
  simp only [Value.ownBlock, Option.some.injEq] at hk
  omega

/-- A copy of n pairs, in a new block. -/
def Cpy (w0 : World) (n : Nat) (f g : Nat → Value) (e : Ending) (w : World) : Prop :=
  ∃ b c, e = .returned (.slice (some ⟨b, 0, none⟩) n c) ∧ n ≤ c ∧ w0.heap.size ≤ b ∧ Hid (∀ i, i < n → w.cell? ⟨b, 0 + i * 2, none⟩ = some (f i) ∧ w.cell? ⟨b, 0 + i * 2 + 1, none⟩ = some (g i))

set_option maxHeartbeats 400000 in
theorem cloneN_any {a : Option Addr} {n c : Nat} {M : Nat → ByteArray} {K : Nat → Int} {w : World} (hn : n ≤ 1000) (h0 : 0 < n) (h : Nds w a n M K) :
    Calls Try.prog 59 #[.slice a n c] w fun e w' => Cpy w n (fun i => .string (M i)) (fun i => .int .i64 (K i)) e w' ∧ Below w.heap.size w w' := by
  obtain ⟨b, o, ha, hc⟩ := h
  obtain rfl := ha h0
  obtain ⟨i0, hi, hz0, hz1, hz2⟩ := info_parts Try.info77
  have HI : Hid (Try.prog.info? 77 = some i0 ∧ i0.zero = some (.agg #[.string ByteArray.empty, .int .i64 0]) ∧ i0.size = 2 ∧ i0.bytes = 24) := ⟨hi, hz0, hz1, hz2⟩
  have HO : Hid ((w.alloc (.cells #[] 77)).ownsRow w.heap.size 77 2 (.slice (some ⟨w.heap.size, 0, none⟩) 0 0) 0 []) := World.ownsRow_made w #[] 0 (Nat.le_refl _) (Nat.zero_le _) rfl
  have HN : Hid (∀ j u, (vals2 (fun i => .string (M i)) (fun i => .int .i64 (K i)) n)[j]? = some u → (w.alloc (.cells #[] 77)).cell? ((⟨b, o, none⟩ : Addr).add j) = some u) :=
    vals2_cell (fun i hi => Nds.at hc ((Below.refl _ _).alloc (Nat.le_refl _) _) hi)
  have hq := fun w' => Go.Lib.run_eql_slice_nil (P := Try.prog) w' 22 77 (some ⟨b, o, none⟩) n c 0 0 Try.underlying22
  clear hi hz0 hz1 hz2 hc ha
  go_enter Try.func59, Try.ntmps59
  go_wp2_with (at_builtin; refine wpList_append_own _ rfl _ _ 22 rfl w.heap.size 77 i0 (.agg #[.string ByteArray.empty, .int .i64 0]) 2 24 Try.underlying22 HI.out.1 HI.out.2.1 HI.out.2.2.1 HI.out.2.2.2 rfl (by decide) _ _ _ rfl HO.out ⟨b, o, none⟩ n c (vals2 (fun i => .string (M i)) (fun i => .int .i64 (K i)) n) rfl (vals2_len _ _ _) HN.out (vals2_one (fun _ => rfl) (fun _ => rfl)) (by unfold maxLen; omega) (by omega) (by simp) ?_; intro v' w1 hown' hgrow _; have HX := clone2_post hown' hgrow; clear hown' hgrow)
  go_ret
  refine ⟨?_, HX.out.2⟩
  obtain ⟨b1, c1, rfl, h2, h3, _, h4⟩ := vals2_owns HX.out.1 h0
  exact ⟨b1, c1, rfl, h2, h3, h4⟩

set_option maxHeartbeats 400000 in
theorem cloneF_any {a : Option Addr} {n c : Nat} {A B : Nat → Int} {w : World} (hn : n ≤ 1000) (h0 : 0 < n) (h : Fls w a n A B) :
    Calls Try.prog 60 #[.slice a n c] w fun e w' => Cpy w n (fun i => .int .i64 (A i)) (fun i => .int .i64 (B i)) e w' ∧ Below w.heap.size w w' := by
  obtain ⟨b, o, ha, hc⟩ := h
  obtain rfl := ha h0
  obtain ⟨i0, hi, hz0, hz1, hz2⟩ := info_parts Try.info83
  have HI : Hid (Try.prog.info? 83 = some i0 ∧ i0.zero = some (.agg #[.int .i64 0, .int .i64 0]) ∧ i0.size = 2 ∧ i0.bytes = 16) := ⟨hi, hz0, hz1, hz2⟩
  have HO : Hid ((w.alloc (.cells #[] 83)).ownsRow w.heap.size 83 2 (.slice (some ⟨w.heap.size, 0, none⟩) 0 0) 0 []) := World.ownsRow_made w #[] 0 (Nat.le_refl _) (Nat.zero_le _) rfl
  have HN : Hid (∀ j u, (vals2 (fun i => .int .i64 (A i)) (fun i => .int .i64 (B i)) n)[j]? = some u → (w.alloc (.cells #[] 83)).cell? ((⟨b, o, none⟩ : Addr).add j) = some u) :=
    vals2_cell (fun i hi => Fls.at hc ((Below.refl _ _).alloc (Nat.le_refl _) _) hi)
  have hq := fun w' => Go.Lib.run_eql_slice_nil (P := Try.prog) w' 23 83 (some ⟨b, o, none⟩) n c 0 0 Try.underlying23
  clear hi hz0 hz1 hz2 hc ha
  go_enter Try.func60, Try.ntmps60
  go_wp2_with (at_builtin; refine wpList_append_own _ rfl _ _ 23 rfl w.heap.size 83 i0 (.agg #[.int .i64 0, .int .i64 0]) 2 16 Try.underlying23 HI.out.1 HI.out.2.1 HI.out.2.2.1 HI.out.2.2.2 rfl (by decide) _ _ _ rfl HO.out ⟨b, o, none⟩ n c (vals2 (fun i => .int .i64 (A i)) (fun i => .int .i64 (B i)) n) rfl (vals2_len _ _ _) HN.out (vals2_one (fun _ => rfl) (fun _ => rfl)) (by unfold maxLen; omega) (by omega) (by simp) ?_; intro v' w1 hown' hgrow _; have HX := clone2_post hown' hgrow; clear hown' hgrow)
  go_ret
  refine ⟨?_, HX.out.2⟩
  obtain ⟨b1, c1, rfl, h2, h3, _, h4⟩ := vals2_owns HX.out.1 h0
  exact ⟨b1, c1, rfl, h2, h3, h4⟩

end Go.Proofs.Ytjenkhphngiphaa
