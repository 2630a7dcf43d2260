/- A family of rows that the call itself makes: a block of slices, each with a row of its own; what one append to one of them does. And the lists of the graph turned round. Turn and Turned, each by its contract: both make the graph turned round, in new memory. Small functions, by their contracts. -/
import Derived.Deep.OwnRows
import Derived.Maps.AppendAt
import Derived.Test.YtgahdclbaifcbaaGraph
namespace Go.Proofs.Ytgahdclbaifcbaa
open Go.RowKit

theorem Try.info3 : (Try.prog.info? 3).map (fun i => (i.zero, i.size, i.bytes)) = some (some (.int .i64 0), 1, 8) := by kernel_rfl
theorem Try.info22 : (Try.prog.info? 22).map (fun i => (i.zero, i.size, i.bytes)) = some (some (.slice none 0 0), 1, 24) := by kernel_rfl

def vals (l : List Int) : List Value := l.map (Value.int .i64)
theorem vals_snoc (l : List Int) (x : Int) : vals l ++ [.int .i64 x] = vals (l ++ [x]) := by simp [vals]

/-- What a slice value that owns numbers looks like, and what it holds. -/
theorem owns_row {w : World} {base : Nat} {v : Value} {l : List Int} (h : w.ownsRow base 3 1 v l.length (vals l)) :
    ∃ a c, v = .slice a l.length c ∧ Row w a l.length (fun i => l.getD i 0) := by
  rcases h.2 with ⟨rfl, h0⟩ | ⟨g, cap, cur, rfl, hb, hg, _⟩
  · exact ⟨none, 0, by rw [h0], 0, 0, fun hh => by omega, fun i hi => by omega⟩
  · refine ⟨some ⟨g, 0, none⟩, cap, rfl, g, 0, fun _ => rfl, fun i hi => ?_⟩
    have := h.cells (g := g) rfl i (.int .i64 (l.getD i 0)) (by simp [vals, hi])
    have hadd : (⟨g, 0, none⟩ : Addr).add i = ⟨g, 0 + i, none⟩ := by unfold Addr.add; split <;> simp_all
    rw [hadd] at this
    exact this

/-- The rows T, G of them, under the block that was new when the call began. -/
structure Fam (w wr : World) (G : Nat) (T : Nat → List Int) (V : Nat → Value) : Prop where
  below : Below w.heap.size w wr
  top : wr.rowIs w.heap.size 22 G V
  own : ∀ j, j < G → wr.ownsRow (w.heap.size + 1) 3 1 (V j) (T j).length (vals (T j))
  apart : ∀ i j, i < G → j < G → i ≠ j → ∀ b, (V i).ownBlock = some b → (V j).ownBlock ≠ some b

theorem Fam.size {w wr : World} {G : Nat} {T : Nat → List Int} {V : Nat → Value} (h : Fam w wr G T V) : w.heap.size + 1 ≤ wr.heap.size := h.top.lt

theorem fam_start (w : World) (G : Nat) (T : Nat → List Int) (hT : ∀ j, j < G → T j = []) : Fam w (w.alloc (.cells (madeCells #[.slice none 0 0] G) 22)) G T (fun _ => .slice none 0 0) :=
  ⟨(Below.refl _ _).alloc (Nat.le_refl _) _, World.rowIs_made w _ G 22, fun j hj => by rw [hT j hj]; exact World.ownsRow_nil _ _ _ _, fun i j _ _ _ b hb => by simp [Value.ownBlock] at hb⟩

theorem Fam.congr {w wr : World} {G : Nat} {T U : Nat → List Int} {V : Nat → Value} (h : Fam w wr G T V) (e : ∀ j, j < G → T j = U j) : Fam w wr G U V :=
  ⟨h.below, h.top, fun j hj => by rw [← e j hj]; exact h.own j hj, h.apart⟩

/-- 'out[j] = append(out[j], x)'. -/
theorem Fam.step {w wr w1 : World} {G : Nat} {T : Nat → List Int} {V : Nat → Value} {j : Nat} {x : Int} {v' : Value} {o : Obj} (h : Fam w wr G T V) (hj : j < G)
    (hown : w1.ownsRow (w.heap.size + 1) 3 1 v' ((T j).length + 1) (vals (T j) ++ [.int .i64 x])) (hgrow : (wr.alloc o).grownBy w1 (V j).ownBlock)
    (hloc : v'.ownBlock = (V j).ownBlock ∨ v'.ownBlock = some (wr.alloc o).heap.size) :
    w1.cell? ⟨w.heap.size, j, none⟩ = some (V j) ∧ w1.frozen? ⟨w.heap.size, j, none⟩ = false ∧
    Fam w (w1.setCell ⟨w.heap.size, j, none⟩ v') G (fun i => if i = j then T j ++ [x] else T i) (fun i => if i = j then v' else V i) := by
  have hsz := h.size
  have hVlt : ∀ k, (V j).ownBlock = some k → w.heap.size + 1 ≤ k ∧ k < wr.heap.size := (h.own j hj).lt
  have hg : wr.grownBy w1 (V j).ownBlock := (World.grownBy_alloc _ _ _).trans hgrow
  have htop : w1.rowIs w.heap.size 22 G V := h.top.of_block (hg.block _ h.top.lt (fun e => by have := hVlt _ e.symm; omega))
  refine ⟨htop.cell hj, htop.frozen j, ?_⟩
  refine ⟨?_, htop.set j v', fun i hi => ?_, fun i k hi hk hne b hb => ?_⟩
  · exact (h.below.grown hg (by omega) (fun k hk => by have := hVlt k hk; omega)).setCell (Nat.le_refl _) _
  · by_cases e : i = j
    · subst e
      simp only [if_true]
      have : (T i ++ [x]).length = (T i).length + 1 := by simp
      rw [this, ← vals_snoc]
      exact ownsRow_setCell_below hown (by show w.heap.size < _; omega) _
    · simp only [if_neg e]
      have h1 : w1.ownsRow (w.heap.size + 1) 3 1 (V i) (T i).length (vals (T i)) := (h.own i hi).kept hg (by
        cases hv : (V i).ownBlock with
        | none => exact Or.inl rfl
        | some b => exact Or.inr (fun ee => h.apart i j hi hj e b hv ee.symm))
      exact ownsRow_setCell_below h1 (by show w.heap.size < _; omega) _
  · have old : ∀ i, i < G → ∀ b, (V i).ownBlock = some b → b < wr.heap.size := fun i hi b hb => ((h.own i hi).lt b hb).2
    have hnew : (wr.alloc o).heap.size = wr.heap.size + 1 := by simp
    by_cases ei : i = j
    · have ek : k ≠ j := fun e => hne (ei.trans e.symm)
      simp only [if_pos ei, if_neg ek] at hb ⊢
      intro hb2
      rcases hloc with hl | hl
      · exact h.apart k j hk hj ek b hb2 (by rw [← hl]; exact hb)
      · rw [hl] at hb
        have := old k hk b hb2
        simp only [Option.some.injEq] at hb
        omega
    · simp only [if_neg ei] at hb ⊢
      by_cases ek : k = j
      · simp only [if_pos ek]
        intro hb2
        rcases hloc with hl | hl
        · exact h.apart i j hi hj ei b hb (by rw [← hl]; exact hb2)
        · rw [hl] at hb2
          have := old i hi b hb
          simp only [Option.some.injEq] at hb2
          omega
      · simp only [if_neg ek]
        exact h.apart i k hi hk hne b hb

theorem Fam.step' {w wr w1 : World} {G : Nat} {T : Nat → List Int} {V : Nat → Value} {j n : Nat} {x : Int} {v v' : Value} {o : Obj} (h : Fam w wr G T V) (hj : j < G) (hn : (T j).length = n) (hv : V j = v)
    (hown : w1.ownsRow (w.heap.size + 1) 3 1 v' (n + 1) (vals (T j) ++ [.int .i64 x])) (hgrow : (wr.alloc o).grownBy w1 v.ownBlock)
    (hloc : v'.ownBlock = v.ownBlock ∨ v'.ownBlock = some (wr.alloc o).heap.size) :
    (∃ a c, v' = .slice a (n + 1) c) ∧ w1.cell? ⟨w.heap.size, j, none⟩ = some v ∧ w1.frozen? ⟨w.heap.size, j, none⟩ = false ∧
    Hid (Fam w (w1.setCell ⟨w.heap.size, j, none⟩ v') G (fun i => if i = j then T j ++ [x] else T i) (fun i => if i = j then v' else V i)) := by
  subst hn
  subst hv
  refine ⟨?_, h.step hj hown hgrow hloc⟩
  rcases hown.2 with ⟨_, h0⟩ | ⟨g, cap, cur, rfl, _⟩
  · omega
  · exact ⟨_, _, rfl⟩

/-- The nodes below r from which one may go to j. -/
def tl (L : Nat → Nat) (Z : Nat → Nat → Int) (r j : Nat) : List Int := ((List.range r).filter (fun q => has (L q) (Z q) j)).map (fun q : Nat => (q : Int))

theorem tl_succ (L : Nat → Nat) (Z : Nat → Nat → Int) (r j : Nat) : tl L Z (r + 1) j = tl L Z r j ++ if has (L r) (Z r) j = true then [(r : Int)] else [] := by
  unfold tl
  rw [List.range_succ, List.filter_append, List.map_append]
  by_cases h : has (L r) (Z r) j = true <;> simp [h]

theorem tl_le (L : Nat → Nat) (Z : Nat → Nat → Int) (r j : Nat) : (tl L Z r j).length ≤ r := by
  unfold tl
  rw [List.length_map]
  exact Nat.le_trans (List.length_filter_le _ _) (by simp)

theorem tl_lt (L : Nat → Nat) (Z : Nat → Nat → Int) (r j : Nat) : ∀ x ∈ tl L Z r j, x < r := by
  intro x hx
  unfold tl at hx
  obtain ⟨q, hq, rfl⟩ := List.mem_map.1 hx
  have := List.mem_range.1 (List.mem_filter.1 hq).1
  omega

/-- .. and r, if one may go to j by the first i of its list. -/
def tli (L : Nat → Nat) (Z : Nat → Nat → Int) (r i j : Nat) : List Int := tl L Z r j ++ if has i (Z r) j = true then [(r : Int)] else []

theorem has_zero (Z : Nat → Int) (x : Int) : has 0 Z x = false := has_no (fun i hi => by omega)

theorem tli_zero (L : Nat → Nat) (Z : Nat → Nat → Int) (r j : Nat) : tli L Z r 0 j = tl L Z r j := by
  unfold tli
  rw [has_zero]
  simp

theorem tli_full (L : Nat → Nat) (Z : Nat → Nat → Int) (r j : Nat) : tli L Z r (L r) j = tl L Z (r + 1) j := by rw [tl_succ]; rfl

theorem tli_le (L : Nat → Nat) (Z : Nat → Nat → Int) (r i j : Nat) : (tli L Z r i j).length ≤ r + 1 := by
  unfold tli
  have := tl_le L Z r j
  by_cases h : has i (Z r) j = true <;> simp [h] <;> omega

theorem has_succ (i : Nat) (Z : Nat → Int) (x : Int) : has (i + 1) Z x = (has i Z x || decide (Z i = x)) := by
  rw [Bool.eq_iff_iff]
  unfold has
  simp only [decide_eq_true_eq, Bool.or_eq_true]
  constructor
  · rintro ⟨k, hk, e⟩
    by_cases hki : k = i
    · subst hki; exact Or.inr e
    · exact Or.inl ⟨k, by omega, e⟩
  · rintro (⟨k, hk, e⟩ | e)
    · exact ⟨k, by omega, e⟩
    · exact ⟨i, by omega, e⟩

/-- The row's last number is r just if r is there already. -/
theorem tli_last (L : Nat → Nat) (Z : Nat → Nat → Int) (r i j : Nat) :
    decide (0 < (tli L Z r i j).length ∧ (tli L Z r i j).getD ((tli L Z r i j).length - 1) 0 = (r : Int)) = has i (Z r) j := by
  by_cases h : has i (Z r) j = true
  · rw [h, decide_eq_true_eq]
    unfold tli
    rw [if_pos h]
    refine ⟨by simp, ?_⟩
    simp
  · have h' : has i (Z r) j = false := by simpa using h
    rw [h', decide_eq_false_iff_not]
    unfold tli
    rw [if_neg h, List.append_nil]
    rintro ⟨h0, h1⟩
    have hm : (tl L Z r j).getD ((tl L Z r j).length - 1) 0 ∈ tl L Z r j := by
      rw [List.getD_eq_getElem?_getD, List.getElem?_eq_getElem (by omega)]
      exact List.getElem_mem _
    have := tl_lt L Z r j _ hm
    omega

theorem tli_hit (L : Nat → Nat) (Z : Nat → Nat → Int) (r i t : Nat) (hz : Z r i = t) (h : has i (Z r) t = true) (j : Nat) : tli L Z r i j = tli L Z r (i + 1) j := by
  unfold tli
  rw [has_succ]
  by_cases e : t = j
  · subst e; simp [h]
  · have : decide (Z r i = (j : Int)) = false := by rw [decide_eq_false_iff_not]; omega
    rw [this, Bool.or_false]

theorem tli_new (L : Nat → Nat) (Z : Nat → Nat → Int) (r i t : Nat) (hz : Z r i = t) (h : has i (Z r) t = false) (j : Nat) :
    (if j = t then tli L Z r i t ++ [(r : Int)] else tli L Z r i j) = tli L Z r (i + 1) j := by
  unfold tli
  rw [has_succ]
  by_cases e : j = t
  · subst e; simp [h, hz]
  · have : decide (Z r i = (j : Int)) = false := by rw [decide_eq_false_iff_not]; omega
    rw [this, Bool.or_false, if_neg e]

end Go.Proofs.Ytgahdclbaifcbaa

namespace Go.Proofs.Ytgahdclbaifcbaa
open Go.RowKit

theorem check_ok (ga : Option Addr) (G gc : Nat) (L : Nat → Nat) (Z : Nat → Nat → Int) (w : World) (hL : ∀ r, r < G → L r ≤ 140737488355328) (h : Gr w ga G L Z) (h0 : errG G L Z = 0) :
    Calls Try.prog 46 #[.slice ga G gc] w fun e w' => e = .returned (.int .i64 0) ∧ w' = w := by
  have := check_any ga G gc L Z w hL h
  rwa [h0] at this

theorem errG_zero {G : Nat} {L : Nat → Nat} {Z : Nat → Nat → Int} (h : errG G L Z = 0) : G ≤ 20000 ∧ ∀ r, r < G → ∀ i, i < L r → 0 ≤ Z r i ∧ Z r i < G := by
  unfold errG at h
  by_cases h1 : 20000 < G
  · rw [if_pos h1] at h; cases h
  · rw [if_neg h1] at h
    by_cases h2 : okG G L Z = true
    · exact ⟨by omega, okG_all h2⟩
    · rw [if_neg h2] at h; cases h

end Go.Proofs.Ytgahdclbaifcbaa

namespace Go.Proofs.Ytgahdclbaifcbaa
open Go.RowKit

set_option maxHeartbeats 400000 in
theorem endsWith_any (a : Option Addr) (n c : Nat) (Z : Nat → Int) (x : Int) (w : World) (hn : n ≤ 140737488355328) (h : Row w a n Z) :
    Calls Try.prog 47 #[.slice a n c, .int .i64 x] w fun e w' => e = .returned (.bool (decide (0 < n ∧ Z (n - 1) = x))) ∧ w' = w := by
  obtain ⟨b, o, ha, hc⟩ := h
  by_cases h0 : 0 < n
  · obtain rfl := ha h0
    have hcl := hc (n - 1) (by omega)
    have hz : (0 : Int) < n := by omega
    obtain ⟨k, rfl⟩ : ∃ k, n = k + 1 := ⟨n - 1, by omega⟩
    simp only [Nat.add_sub_cancel] at hcl ⊢
    clear hc ha
    go_enter Try.func47, Try.ntmps47
    go_wp2
    go_ret
    refine ⟨ret_bool ?_, rfl⟩
    rw [Bool.eq_iff_iff]; simp
  · have hz : ¬ (0 : Int) < n := by omega
    obtain rfl : n = 0 := by omega
    go_enter Try.func47, Try.ntmps47
    go_wp2
    go_ret
    exact ⟨ret_bool (by simp), rfl⟩

set_option maxHeartbeats 1000000 in
theorem turn_ok (ga : Option Addr) (G gc : Nat) (L : Nat → Nat) (Z : Nat → Nat → Int) (w : World) (hL : ∀ r, r < G → L r ≤ 140737488355328) (h : Gr w ga G L Z) (h0 : errG G L Z = 0) :
    Calls Try.prog 27 #[.slice ga G gc] w fun e w' => e = .returned (.tuple #[.slice (some ⟨w.heap.size, 0, none⟩) G G, .int .i64 0]) ∧ ∃ V, Fam w w' G (tl L Z G) V := by
  have C : Hid (Calls Try.prog 46 #[.slice ga G gc] w fun e w' => e = .returned (.int .i64 0) ∧ w' = w) := check_ok ga G gc L Z w hL h h0
  obtain ⟨hG, hall⟩ := errG_zero h0
  have HA : Hid (∀ r, r < G → ∀ i, i < L r → 0 ≤ Z r i ∧ Z r i < G) := hall
  have HL : Hid (∀ r, r < G → L r ≤ 140737488355328) := hL
  obtain ⟨b, o, ha, hc⟩ := h
  have HC : Hid (∀ r, r < G → ∃ a c, w.cell? ⟨b, o + r, none⟩ = some (.slice a (L r) c) ∧ Row w a (L r) (Z r)) := hc
  clear hc hL hall h0
  have hmk := run_make_row' (P := Try.prog) 23 22 (.slice none 0 0) 24 Try.underlying23 Try.info22 rfl .i64 .i64 G (by omega) (by omega)
  obtain ⟨i0, hi, hz0, hz1, hz2⟩ := info_parts Try.info3
  have HI : Hid (Try.prog.info? 3 = some i0 ∧ i0.zero = some (.int .i64 0) ∧ i0.size = 1 ∧ i0.bytes = 8) := ⟨hi, hz0, hz1, hz2⟩
  clear hi hz0 hz1 hz2
  go_enter Try.func27, Try.ntmps27
  go_wp2_with fail
  refine C.out.mono ?_
  rintro e w' ⟨rfl, rfl⟩
  go_wp2
  clear hmk
  go_loopw [20] (fun i wr => ∃ r : Nat, r ≤ G ∧ i = .int .i64 r ∧ ∃ V, Fam w' wr G (tl L Z r) V) (fun i _ => G - (intOf i).toNat)
  case atStart => exact ⟨0, Nat.zero_le _, rfl, _, fam_start w' G _ (fun j _ => rfl)⟩
  case round =>
    obtain ⟨r, hr, rfl, V, hF⟩ := hrel
    by_cases hlt : r < G
    · obtain rfl := ha (by omega)
      obtain ⟨a, c, hck0, hrow0⟩ := HC.out r hlt
      have hck : wr.cell? ⟨b, o + r, none⟩ = some (.slice a (L r) c) := by
        rw [hF.below.cell (p := ⟨b, o + r, none⟩) (World.block_lt_of_cell? _ _ hck0)]; exact hck0
      have HR : Hid (Row w' a (L r) (Z r)) := hrow0
      have HF : Hid (Fam w' wr G (tl L Z r) V) := hF
      have hLr := HL.out r hlt
      clear hrow0 hck0 hF ha
      go_wp2
      go_loopw [27] (fun i wi => ∃ k : Nat, k ≤ L r ∧ i = .int .i64 k ∧ ∃ V, Fam w' wi G (tli L Z r k) V) (fun i _ => L r - (intOf i).toNat)
      case atStart => exact ⟨0, Nat.zero_le _, rfl, V, HF.out.congr (fun j _ => (tli_zero L Z r j).symm)⟩
      case round =>
        obtain ⟨k, hk, rfl, V', hF⟩ := hrel
        by_cases hlk : k < L r
        · obtain ⟨b', o', ha', hc'⟩ := HR.out
          obtain rfl := ha' (by omega)
          obtain ⟨t, ht⟩ : ∃ t : Nat, Z r k = t := ⟨(Z r k).toNat, by have := HA.out r hlt k hlk; omega⟩
          have htG : t < G := by have := HA.out r hlt k hlk; omega
          have htz : (t : Int) < G := by omega
          have hcell : wr.cell? ⟨b', o' + k, none⟩ = some (.int .i64 t) := by
            rw [hF.below.cell (p := ⟨b', o' + k, none⟩) (World.block_lt_of_cell? _ _ (hc' k hlk)), hc' k hlk, ht]
          have HT : Hid (Z r k = t) := ht
          clear hck ht hc' ha' HF
          obtain ⟨a2, c2, hv, hrow⟩ := owns_row (hF.own t htG)
          have hown := hF.own t htG
          have htop := hF.top.cell htG
          rw [hv] at hown htop
          have hlen := tli_le L Z r k t
          have CE := endsWith_any a2 (tli L Z r k t).length c2 _ (r : Int) wr (by omega) hrow
          rw [tli_last] at CE
          have HE : Hid (Calls Try.prog 47 #[.slice a2 (tli L Z r k t).length c2, .int .i64 r] wr fun e w' => e = .returned (.bool (has k (Z r) t)) ∧ w' = wr) := CE
          have HF : Hid (Fam w' wr G (tli L Z r k) V') := hF
          have HV : Hid (V' t = .slice a2 (tli L Z r k t).length c2) := hv
          have HO : Hid (wr.ownsRow (w'.heap.size + 1) 3 1 (.slice a2 (tli L Z r k t).length c2) (tli L Z r k t).length (vals (tli L Z r k t))) := hown
          have hsize := hF.size
          clear CE hrow hF hv hown
          generalize hn : (tli L Z r k t).length = n at *
          have HN : Hid ((tli L Z r k t).length = n) := hn
          clear hn
          cases hb : has k (Z r) t
          · have HB : Hid (has k (Z r) t = false) := hb
            rw [hb] at HE
            clear hb
            go_wp2_with fail
            refine HE.out.mono ?_
            rintro e w1 ⟨rfl, rfl⟩
            go_wp2_with (at_builtin; refine wpList_append_own_at _ rfl _ _ 22 rfl (w'.heap.size + 1) 3 i0 (.int .i64 0) 1 8 Try.underlying22 HI.out.1 HI.out.2.1 HI.out.2.2.1 HI.out.2.2.2 rfl (by decide) _ _ _ rfl (HO.out.alloc _) ⟨w1.heap.size, 0, none⟩ 1 1 [.int .i64 r] rfl rfl (cell_one_new _ _ _) (ints_oneCell .i64 [(r : Int)]) (by unfold maxLen; omega) (by omega) (by simp; omega) ?_; intro v' w2 hown' hgrow hnil hloc; obtain ⟨⟨a3, c3, rfl⟩, g1, g2, G3⟩ := Fam.step' HF.out htG HN.out HV.out hown' hgrow hloc; clear hown' hgrow hnil hloc)
            go_roundw
            case rel => exact ⟨k + 1, by omega, by go_num, _, G3.out.congr (fun j _ => tli_new L Z r k t HT.out HB.out j)⟩
            case measure => simp [intOf]; omega
          · have HB : Hid (has k (Z r) t = true) := hb
            rw [hb] at HE
            clear hb
            go_wp2_with fail
            refine HE.out.mono ?_
            rintro e w1 ⟨rfl, rfl⟩
            go_wp2
            go_roundw
            case rel => exact ⟨k + 1, by omega, by go_num, V', HF.out.congr (fun j _ => tli_hit L Z r k t HT.out HB.out j)⟩
            case measure => simp [intOf]; omega
        · go_wp2
          obtain rfl : k = L r := by omega
          go_roundw
          case rel => exact ⟨r + 1, by omega, by go_num, V', hF.congr (fun j _ => tli_full L Z r j)⟩
          case measure => simp [intOf]; omega
    · go_wp2
      obtain rfl : r = G := by omega
      go_ret2
      exact ⟨rfl, V, hF⟩

end Go.Proofs.Ytgahdclbaifcbaa
