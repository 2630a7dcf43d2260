
import Derived.RangeFuncNested
import Derived.RangeFuncBound
import Derived.RangeFuncCalls
import Derived.RangeFuncLeaves
import Derived.Shelf.Abstract
import Derived.Shelf.RegionOpen
import Derived.OwnWalkIn
import Derived.TacticsInMore
import Derived.LoopNIn
import Derived.LoopIn
import Derived.Lib.SliceRun
import Derived.WalkSmall
import Derived.Deep.AppendLies
import Derived.Deep.RegionHeld3
import Derived.Deep.WholeRow
import Derived.Deep.MidRow
import Derived.Laws.Bits64b
import Derived.Lib.TrailingZeros
import Derived.Deep.OwnRows
import Derived.Maps.AppendAt
import Derived.Test.YtmdpbaobihdgkaaGreatDoorRows
import Derived.WalkKit
import Derived.WalkSpells
import Derived.WalkLawsBesides
import Derived.Deep.QuietTactic
import Derived.BigQuiet
import Derived.Below
import Derived.Deep.Heap
import Derived.Deep.RegionHeld
import Derived.Test.YtmdpbaobihdgkaaGreatDoorRwsJ
import Derived.Test.YtmdpbaobihdgkaaGreatDoorBaseJ
import Derived.Test.YtmdpbaobihdgkaaGreatDoorPshJ
import Derived.Test.YtmdpbaobihdgkaaGreatDoorTeaJ
import Derived.Test.YtmdpbaobihdgkaaGreatDoorWk
import Derived.Test.YtmdpbaobihdgkaaGreatDoorMkfJ
import Derived.Test.YtmdpbaobihdgkaaGreatDoorAWlF
import Derived.Test.YtmdpbaobihdgkaaGreatDoorAWlB
/- Clone and clear of slices of sets; Backward; a region within a round. -/
namespace Go.Proofs.YtmdpbaobihdgkaaGreatDoor
open Go.RowKit Go.Shelf

/-- The cells of some sets, one behind the other. -/
def lsv (X : Nat → Nat → Nat) : Nat → List Value
  | 0 => []
  | n + 1 => lsv X n ++ (cellsS (X n)).toList
theorem lsv_len (X : Nat → Nat → Nat) : ∀ n, (lsv X n).length = n * 32
  | 0 => rfl
  | n + 1 => by rw [lsv, List.length_append, lsv_len X n]; simp [cellsS_size]; omega
theorem lsv_at (X : Nat → Nat → Nat) (i j : Nat) (hj : j < 32) : ∀ n, i < n → (lsv X n)[i * 32 + j]? = some (.int .u64 (X i j : Nat))
  | 0, h => by omega
  | n + 1, h => by
    rw [lsv]
    by_cases e : i = n
    · subst e
      rw [List.getElem?_append_right (by rw [lsv_len]; omega), lsv_len, show i * 32 + j - i * 32 = j by omega]
      simpa using cellsS_at (X i) j hj
    · rw [List.getElem?_append_left (by rw [lsv_len]; omega)]
      exact lsv_at X i j hj n (by omega)
theorem lsv_one (X : Nat → Nat → Nat) : ∀ n, ∀ u ∈ lsv X n, u.oneCell' = true
  | 0, u, h => by simp [lsv] at h
  | n + 1, u, h => by
    rw [lsv] at h
    rcases List.mem_append.1 h with h | h
    · exact lsv_one X n u h
    · exact (Array.all_eq_true_iff_forall_mem.1 (cellsS_one (X n))) u (by simpa using h)

theorem ls_news {w : World} {b n : Nat} {X : Nat → Nat → Nat} (h : Ls w b n X) : ∀ j u, (lsv X n)[j]? = some u → w.cell? ((⟨b, 0, none⟩ : Addr).add j) = some u := by
  intro j u hu
  have hj : j < n * 32 := by
    have := (List.getElem?_eq_some_iff.1 hu).1
    rwa [lsv_len] at this
  have e : j = j / 32 * 32 + j % 32 := by omega
  have h1 := lsv_at X (j / 32) (j % 32) (by omega) n (by omega)
  rw [← e, hu] at h1
  rw [Addr.add_mid, Nat.zero_add, h1]
  have h2 := (h (j / 32) (by omega)).cell (j % 32) (by omega)
  rw [← e] at h2
  exact h2

/-- An own row of sets. -/
theorem owns_ls {w : World} {base : Nat} {v : Value} {n : Nat} {X : Nat → Nat → Nat} (hX : ∀ i, i < n → ∀ j, j < 32 → X i j < 18446744073709551616) (hn : 0 < n) (h : w.ownsRow base 69 32 v n (lsv X n)) :
    ∃ g c, v = .slice (some ⟨g, 0, none⟩) n c ∧ base ≤ g ∧ g < w.heap.size ∧ Ls w g n X := by
  rcases h.2 with ⟨_, h0⟩ | ⟨g, cap, cur, rfl, hb, hg, _⟩
  · omega
  · refine ⟨g, cap, rfl, hb, (Array.getElem?_eq_some_iff.1 hg).1, fun i hi => ⟨fun j hj => ?_, fun j hj => by unfold World.frozen?; rw [hg]; simp, hX i hi⟩⟩
    have := h.cells (g := g) rfl _ _ (lsv_at X i j hj n hi)
    rw [Addr.add_mid, Nat.zero_add] at this
    exact this

theorem zS_size : (Value.agg (cellsS (fun _ => 0))).cells.size = 32 := cellsS_size _

set_option maxHeartbeats 1000000 in
theorem cloneS_any (tb m c : Nat) (T : Nat → Nat → Nat) (w : World) (hm : 0 < m) (hm60 : m ≤ 60) (h : Ls w tb m T) :
    Calls Tryz.prog 73 #[.slice (some ⟨tb, 0, none⟩) m c] w fun e w' => (∃ lb lc, e = .returned (.slice (some ⟨lb, 0, none⟩) m lc) ∧ w.heap.size ≤ lb ∧ lb < w'.heap.size ∧ Ls w' lb m T) ∧ Below w.heap.size w w' := by
  have H := hid h
  have HX : Hid (∀ i, i < m → ∀ j, j < 32 → T i j < 18446744073709551616) := hid (fun i hi => (h i hi).small)
  clear h
  obtain ⟨i0, hi, hz0, hz1, hz2⟩ := info_parts Tryz.infoS
  have HI : Hid (Tryz.prog.info? 69 = some i0 ∧ i0.zero = some (.agg (cellsS (fun _ => 0))) ∧ i0.size = 32 ∧ i0.bytes = 256) := ⟨hi, hz0, hz1, hz2⟩
  clear hi hz0 hz1 hz2
  have HO : Hid ((w.alloc (.cells #[] 69)).ownsRow w.heap.size 69 32 (.slice (some ⟨w.heap.size, 0, none⟩) 0 0) 0 []) :=
    hid ⟨rfl, Or.inr ⟨w.heap.size, 0, #[], rfl, Nat.le_refl _, Go.Deep.blk_alloc_new _ _, Nat.le_refl _, by unfold maxLen; omega, rfl, rfl⟩⟩
  have hq := fun w' => Go.Lib.run_eql_slice_nil (P := Tryz.prog) w' 64 69 (some ⟨tb, 0, none⟩) m c 0 0 Tryz.underlying64
  go_enter Tryz.func73, Tryz.ntmps73
  go_wp2_with (at_builtin; refine wpList_append_own_at _ rfl _ _ 64 rfl w.heap.size 69 i0 _ 32 256 Tryz.underlying64 HI.out.1 HI.out.2.1 HI.out.2.2.1 HI.out.2.2.2 zS_size (by decide) _ _ _ rfl HO.out ⟨tb, 0, none⟩ m c (lsv T m) rfl (lsv_len T m) (ls_news (H.out.below' (box_below _ _))) (lsv_one T m) (by unfold maxLen; omega) (by omega) (by simp) ?_; intro v' w2 hown' hgrow hnil hloc; have G := hid (And.intro hown' hgrow); clear hown' hgrow hnil hloc)
  go_ret
  obtain ⟨h1, h2⟩ := G.out
  rw [List.nil_append, Nat.zero_add] at h1
  obtain ⟨g, cc, rfl, hg1, hg2, hls⟩ := owns_ls HX.out hm h1
  exact ⟨⟨g, cc, rfl, hg1, hg2, hls⟩, (box_below w (.cells #[] 69)).grown h2 (by simp) (fun k hk => by cases hk; exact Nat.le_refl _)⟩

/-- clear. -/
theorem clear_run {w : World} {b n c : Nat} {X : Nat → Nat → Nat} (hn : 0 < n) (h : Ls w b n X) : ∃ w', (∀ ty, (Builtin.clear_ #[64] ty #[.slice (some ⟨b, 0, none⟩) n c]).run Tryz.prog w = .ok (.tuple #[]) w') ∧ But b w w' ∧ w'.heap.size = w.heap.size ∧ Ls w' b n (fun _ _ => 0) := by
  obtain ⟨i0, hi, hz0, hz1, hz2⟩ := info_parts Tryz.infoS
  have hv : ∀ u, (zeroValue 69).run Tryz.prog u = .ok (.agg (cellsS (fun _ => 0))) u := fun u => by simp [zeroValue, typeInfo, hi, hz0]
  have hzl : (Builtin.zeroCells (cellsS (fun _ => 0)) n).toList = lsv (fun _ _ => 0) n := by
    apply List.ext_getElem?
    intro k
    by_cases hk : k < n * 32
    · have e : k = k / 32 * 32 + k % 32 := by omega
      have h1 := lsv_at (fun _ _ => 0) (k / 32) (k % 32) (by omega) n (by omega)
      rw [← e] at h1
      rw [h1]
      have h3 := cellsS_at (fun _ => 0) (k % 32) (by omega)
      simp only [Builtin.zeroCells, Array.getElem?_toList, Array.getElem?_map, Array.getElem?_range, cellsS_size]
      rw [if_pos (by omega)]
      simp only [Option.map_some, getElem!_def, h3]
    · rw [List.getElem?_eq_none (by simp [Builtin.zeroCells, cellsS_size]; omega), List.getElem?_eq_none (by rw [lsv_len]; omega)]
  have hst := run_storeCells_cells (P := Tryz.prog) b 0 (lsv (fun _ _ => 0) n) 0 w (fun j hj => by
      rw [lsv_len] at hj
      have h2 := (h (j / 32) (by omega)).cell (j % 32) (by omega)
      rw [show j / 32 * 32 + j % 32 = j by omega] at h2
      rw [Nat.add_zero, Nat.zero_add, h2]; rfl) (fun j hj => by
      rw [lsv_len] at hj
      have h2 := (h (j / 32) (by omega)).free (j % 32) (by omega)
      rw [show j / 32 * 32 + j % 32 = j by omega] at h2
      rw [Nat.add_zero, Nat.zero_add, h2]) (lsv_one _ n)
  obtain ⟨k, rfl⟩ : ∃ k, n = k + 1 := ⟨n - 1, by omega⟩
  refine ⟨w.setCells b 0 (lsv (fun _ _ => 0) (k + 1)), fun ty => ?_, (setCells_but b _ _ _).1, (setCells_but b _ _ _).2, fun i hi => ⟨fun j hj => ?_, fun j hj => ?_, fun _ _ => (by decide : 0 < 18446744073709551616)⟩⟩
  · simp only [Nat.add_zero] at hst
    simp [Builtin.clear_, run_underlying Tryz.underlying64, hv, Value.cells, hzl, hst]
  · have ht : w.there b 0 (lsv (fun _ _ => 0) (k + 1)).length := fun j hj => by
      rw [lsv_len] at hj
      have h2 := (h (j / 32) (by omega)).cell (j % 32) (by omega)
      have h3 := (h (j / 32) (by omega)).free (j % 32) (by omega)
      rw [show j / 32 * 32 + j % 32 = j by omega] at h2 h3
      rw [Nat.zero_add, h2, h3]; exact ⟨rfl, rfl⟩
    have := World.rangeAt_setCells_same w b 0 _ ht (i * 32 + j) _ (lsv_at (fun _ _ => 0) i j hj (k + 1) hi)
    rw [Nat.zero_add] at this
    exact this
  · rw [World.frozen?_setCells]; exact (h i hi).free j hj

/-! Within a round. -/
section
variable {P : Program} {ops : Array Oper} {Q : Exit → Act → World → Prop} {md : Region.Mode}

theorem rows_in (l n : Nat) {row : String} {args : Array Value} {w : World} {R : Value → World → Prop} (h : Rows P row args w R) : RowsIn (Fence.wide.inRound l) n P row args w R :=
  fun c cs _ => let ⟨v, w', r, s⟩ := h c cs; ⟨v, w', r, stepsIn_wide.2 s⟩

/-- No deferred call? -/
def noDef (o : Oper) : Bool := match o.op with | .defer _ => false | _ => true
theorem noDef_spec {o : Oper} (h : noDef o = true) : ∀ c, o.op ≠ .defer c := fun c e => by
  unfold noDef at h
  rw [e] at h
  cases h

theorem op_in (l n : Nat) {o : Oper} {a : Act} {w : World} {K : Act → World → Prop} (hd : ∀ c, o.op ≠ .defer c) (h : o.wp P a w K Q) : o.wpIn (Fence.wide.inRound l) n P a w K Q := by
  unfold Oper.wp at h
  unfold Oper.wpIn
  refine ⟨fun _ _ => trivial, ?_⟩
  rw [Oper.semAt_eq _ _ _ hd]
  generalize hr : (execOp a.eval o).run P w = r at *
  cases r with
  | ok x w' =>
    cases x with
    | enter f args =>
      rw [Oper.uponIn_enter]
      rw [Oper.upon_enter] at h
      exact ⟨fun hh => by simp [Fence.wide, Fence.inRound] at hh, CallsIn.inRound l (callsIn_wide.2 h)⟩
    | row r args =>
      rw [Oper.uponIn_row]
      rw [Oper.upon_row] at h
      exact ⟨fun hh => by simp [Fence.wide, Fence.inRound] at hh, rows_in l _ h⟩
    | _ => first | exact h | exact h.elim
  | halt x w' => cases x <;> first | exact h | exact h.elim

theorem any_in (l n : Nat) (hQ : ¬ LetsOut Q) (hok : ops.all noDef = true) : ∀ (fuel : Nat) (listed : Array Bool) (a : Act) (w : World), wpAny P md ops Q fuel listed a w → wpAnyIn (Fence.wide.inRound l) n P md ops Q fuel listed a w
  | 0, _, _, _, h => h
  | fuel + 1, listed, a, w, h => by
    refine ⟨h.1, fun i hi => ?_⟩
    have h1 := h.2 i hi
    unfold wpOp at h1
    unfold wpOpIn
    split
    · rename_i ho
      simp only [ho] at h1
      exact any_in l n hQ hok fuel _ _ _ h1
    · rename_i o ho
      simp only [ho] at h1
      split
      · rename_i hw
        rw [if_pos hw] at h1
        rcases h1 with h1 | h1
        · have hd : noDef o = true := by
            obtain ⟨hlt, he⟩ := Array.getElem?_eq_some_iff.1 ho
            have := Array.all_eq_true_iff_forall_mem.1 hok o (by rw [← he]; exact Array.getElem_mem _)
            exact this
          have h2 := op_in l n (noDef_spec hd) h1
          exact Oper.wpIn_mono (fun a w h => any_in l n hQ hok fuel _ a w h) h2
        · exact absurd h1.2 hQ
      · rename_i hw
        rw [if_neg hw] at h1
        exact ⟨fun _ _ => trivial, any_in l n hQ hok fuel _ _ _ h1⟩

/-- What a guard leaves out may be taken first too. -/
theorem G_skip {S : World → Prop} {ex : Nat → Bool} {i : Nat} {oi : Oper} {f : Nat} {listed : Array Bool} {a : Act} {w : World} (hi : ops[i]? = some oi)
    (hs : Region.noSelect ops = true) (hf : Region.free md ops listed i = true) (hr : (Region.ready md ops listed).contains i = true) (hx : exB md ops ex i = true)
    (hQ : ∀ c a w, Q (.panic c) (a.put oi.dst undef) w → Q (.panic c) a w) (hw : Region.wanted oi (yielded ops a.tmps) = false) (hS : S w)
    (h : wpAnyG P md ops Q S ex f (listed.setIfInBounds i true) (a.put oi.dst undef) w) : wpAnyG P md ops Q S ex (f + 1) listed a w :=
  G_first hi (Region.noSelect_spec hs) hQ (exB_spec hx) f listed a w (Region.free_spec hi hf) (by simpa using hr) (Or.inr ⟨hw, rfl⟩) hS h

/-- A drawn region within a round, by the laws of Held. -/
theorem G_round {id l n : Nat} {a : Act} {w : World} (S : World → Prop) (ex : Nat → Bool) (hm : P.follows .mixedOrders = true) (hQ : ¬ LetsOut Q) (hok : ops.all noDef = true) (hS : S w.drew)
    (h : S w.drew → wpAnyG P .any ops Q S ex ops.size (Array.replicate ops.size false) a w.drew) : (Code.region id ops true).wpIn (Fence.wide.inRound l) n P Q a w :=
  wpIn_region_any hm (any_in l n hQ hok _ _ _ _ (any_of_G _ _ _ _ (h hS)))

end

end Go.Proofs.YtmdpbaobihdgkaaGreatDoor
