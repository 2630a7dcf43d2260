/- allReached. -/
import Derived.Deep.AppendLies
import Derived.Deep.RegionLaw
import Derived.Test.YthpbgfodejoecaaProc4
namespace Go.Proofs.Ythpbgfodejoecaa
open Go.RowKit

/-- Whither the first k flows lead from node j, in their order. -/
def tg (A B : Nat → Int) : Nat → Nat → List Int
  | 0, _ => []
  | k + 1, j => if A k = j then tg A B k j ++ [B k] else tg A B k j

theorem tg_len (A B : Nat → Int) : ∀ k j, (tg A B k j).length ≤ k
  | 0, _ => Nat.le_refl _
  | k + 1, j => by
    have := tg_len A B k j
    unfold tg
    split
    · simp; omega
    · omega

theorem tg_step (A B : Nat → Int) (k y j : Nat) (h : A k = y) : (if j = y then tg A B k y ++ [B k] else tg A B k j) = tg A B (k + 1) j := by
  by_cases e : j = y
  · subst e
    simp [tg, h]
  · have : A k ≠ j := by omega
    simp [tg, this, e]

theorem mem_tg (A B : Nat → Int) (x : Int) : ∀ k j, x ∈ tg A B k j ↔ ∃ i, i < k ∧ A i = j ∧ B i = x
  | 0, j => by simp [tg]
  | k + 1, j => by
    have ih := mem_tg A B x k j
    unfold tg
    split
    · rename_i h
      rw [List.mem_append, ih, List.mem_singleton]
      constructor
      · rintro (⟨i, h1, h2, h3⟩ | rfl)
        · exact ⟨i, by omega, h2, h3⟩
        · exact ⟨k, by omega, h, rfl⟩
      · rintro ⟨i, h1, h2, h3⟩
        by_cases e : i = k
        · subst e; exact Or.inr h3.symm
        · exact Or.inl ⟨i, by omega, h2, h3⟩
    · rename_i h
      rw [ih]
      constructor
      · rintro ⟨i, h1, h2, h3⟩
        exact ⟨i, by omega, h2, h3⟩
      · rintro ⟨i, h1, h2, h3⟩
        by_cases e : i = k
        · subst e; exact absurd h2 h
        · exact ⟨i, by omega, h2, h3⟩

/-- One flow more: 'next[f.From] = append(next[f.From], f.To)', f in a block of its own. -/
theorem Fam.alloc {w wr : World} {G : Nat} {T : Nat → List Int} {V : Nat → Value} (h : Fam w wr G T V) (o : Obj) : Fam w (wr.alloc o) G T V :=
  ⟨h.below.alloc h.below.size o, h.top.alloc o, fun j hj => (h.own j hj).alloc o, h.apart⟩

theorem Fam.drew {w wr : World} {G : Nat} {T : Nat → List Int} {V : Nat → Value} (h : Fam w wr G T V) : Fam w wr.drew G T V :=
  ⟨below_drew_iff.2 h.below, h.top, h.own, h.apart⟩

/-- Can each node be come to from a start along flows? -/
def allCome (N F : Nat) (K A B : Nat → Int) : Prop := ∀ x, x < N → ∃ k, Wk (fun s => s < N ∧ K s = 1) (fun x y => ∃ i, i < F ∧ A i = x ∧ B i = y) k x

theorem ownBlock_own {w : World} {B n : Nat} {e : TypeId} {v : Value} {xs : List Value} (h : w.ownsRow B e 1 v n xs) : ∀ s, v.ownBlock = some s → ∃ c, w.heap[s]? = some (.cells c e (0, 0)) := by
  intro s hs
  rcases h.2 with ⟨rfl, _⟩ | ⟨g, cap, cur, rfl, h2, h3, _⟩
  · cases hs
  · cases hs
    exact ⟨cur, h3⟩

theorem grown_cell {U w1 : World} {o : Obj} {row : Option Nat} {p : Addr} {v : Value} (hgrow : (U.alloc o).drew.grownBy w1 row) (h : U.cell? p = some v) (hne : row ≠ some p.block) : w1.cell? p = some v := by
  have hlt := World.block_lt_of_cell? _ _ h
  have hg : (U.alloc o).grownBy w1 row := ⟨hgrow.os, hgrow.tape, hgrow.output, hgrow.size, hgrow.block⟩
  rw [World.cell?_of_block (w := U) (((World.grownBy_alloc U o row).trans hg).block _ hlt (Ne.symm hne))]
  exact h

theorem famApp {w U w1 : World} {G b : Nat} {T : Nat → List Int} {V : Nat → Value} {j n gg cap : Nat} {x : Int} {v : Value} {o : Obj} (h : Fam w U G T V) (hj : j < G) (hn : (T j).length = n) (hv : V j = v) (hb : w.heap.size = b)
    (hown : w1.ownsRow (w.heap.size + 1) 3 1 (.slice (some ⟨gg, 0, none⟩) (n + 1) cap) (n + 1) (vals (T j) ++ [.int .i64 x])) (hgrow : (U.alloc o).drew.grownBy w1 v.ownBlock) (hat : v.ownBlock = some gg ∨ gg = U.heap.size + 1) :
    w1.cell? ⟨b, j, none⟩ = some v ∧ w1.frozen? ⟨b, j, none⟩ = false ∧
    Hid (Fam w (w1.setCell ⟨b, j, none⟩ (.slice (some ⟨gg, 0, none⟩) (n + 1) cap)) G (fun i => if i = j then T j ++ [x] else T i) (fun i => if i = j then .slice (some ⟨gg, 0, none⟩) (n + 1) cap else V i)) := by
  subst hb
  refine (Fam.step' h hj hn hv hown (o := o) ⟨hgrow.os, hgrow.tape, hgrow.output, hgrow.size, hgrow.block⟩ ?_).2
  rcases hat with h1 | h1
  · left
    rw [h1]
    rfl
  · right
    rw [h1]
    simp [Value.ownBlock]

theorem tally_pos {X : Nat → Int} {x : Int} : ∀ {n}, 0 < tally X x n → ∃ i, i < n ∧ X i = x
  | 0, h => absurd h (Nat.lt_irrefl _)
  | n + 1, h => by
    by_cases e : X n = x
    · exact ⟨n, by omega, e⟩
    · rw [tally_miss e] at h
      obtain ⟨i, h1, h2⟩ := tally_pos h
      exact ⟨i, by omega, h2⟩

theorem tally_mono (X : Nat → Int) (x : Int) (n : Nat) : tally X x n ≤ tally X x (n + 1) := by
  by_cases h : X n = x
  · rw [tally_hit h]; omega
  · rw [tally_miss h]; exact Nat.le_refl _

theorem tally_one {X : Nat → Int} {x : Int} : ∀ {n i}, i < n → X i = x → 1 ≤ tally X x n
  | n + 1, i, hi, h => by
    by_cases e : i = n
    · subst e; rw [tally_hit h]; omega
    · have := tally_one (n := n) (by omega) h
      have := tally_mono X x n
      omega

theorem tally_two {X : Nat → Int} {x : Int} : ∀ {n i j}, i < j → j < n → X i = x → X j = x → 2 ≤ tally X x n
  | n + 1, i, j, hij, hj, h1, h2 => by
    by_cases e : j = n
    · subst e
      rw [tally_hit h2]
      have := tally_one (n := j) hij h1
      omega
    · have := tally_two (n := n) hij (by omega) h1 h2
      have := tally_mono X x n
      omega

theorem tally_uniq {X : Nat → Int} {x : Int} {n i j : Nat} (h : tally X x n = 1) (hi : i < n) (hj : j < n) (h1 : X i = x) (h2 : X j = x) : i = j := by
  rcases Nat.lt_trichotomy i j with c | c | c
  · have := tally_two c hj h1 h2; omega
  · exact c
  · have := tally_two c hi h2 h1; omega

theorem one_row (w : World) (r : Int) : Row (w.alloc (.cells #[.int .i64 r] 3)) (some ⟨w.heap.size, 0, none⟩) 1 (fun _ => r) :=
  ⟨w.heap.size, 0, fun _ => rfl, fun i hi => by
    have e : i = 0 := by omega
    subst e
    exact cell_of_alloc rfl⟩

theorem has_tg {A B : Nat → Int} {F j : Nat} {x : Int} : has (tg A B F j).length (fun i => (tg A B F j).getD i 0) x = true ↔ ∃ i, i < F ∧ A i = j ∧ B i = x := by
  rw [has_iff, ← mem_tg, List.mem_iff_getElem?]
  constructor
  · rintro ⟨i, h1, h2⟩
    refine ⟨i, ?_⟩
    rw [List.getD_eq_getElem?_getD, List.getElem?_eq_getElem h1] at h2
    rw [List.getElem?_eq_getElem h1]
    simpa using h2
  · rintro ⟨i, h1⟩
    obtain ⟨h2, h3⟩ := List.getElem?_eq_some_iff.1 h1
    refine ⟨i, h2, ?_⟩
    rw [List.getD_eq_getElem?_getD, h1]
    rfl

theorem tg_err {N F : Nat} {A B : Nat → Int} {r : Nat} (hE : ∀ i, i < F → (0 ≤ A i ∧ A i < N) ∧ (0 ≤ B i ∧ B i < N)) (hN : N ≤ 20000) (hr : r < N) : errF N (fun j => (tg A B F j).length) (fun j i => (tg A B F j).getD i 0) 1 (fun _ => r) = 0 := by
  have hg : errG N (fun j => (tg A B F j).length) (fun j i => (tg A B F j).getD i 0) = 0 := by
    refine errG_ok (by omega) (okG_yes (fun j hj => allIn_yes (fun i hi => ?_)))
    have hm := getD_mem (O := tg A B F j) hi
    obtain ⟨q, h1, h2, h3⟩ := (mem_tg A B _ F j).1 hm
    have := (hE q h1).2
    rw [h3] at this
    exact this
  unfold errF
  rw [if_pos hg, if_pos (allIn_yes (fun i _ => by constructor <;> omega))]

theorem come_iff {N F : Nat} {K A B : Nat → Int} {r : Nat} {R : Nat → Bool} (hE : ∀ i, i < F → (0 ≤ A i ∧ A i < N) ∧ (0 ≤ B i ∧ B i < N)) (hS : tally K 1 N = 1) (hr : r < N) (hK : K r = 1)
    (hcom : ∀ x, x < N → (R x = true ↔ Comes N (fun j => (tg A B F j).length) (fun j i => (tg A B F j).getD i 0) 1 (fun _ => r) x)) : (!(hasB N R false)) = true ↔ allCome N F K A B := by
  have eP : Src 1 (fun _ => (r : Int)) = fun s => s < N ∧ K s = 1 := by
    funext s
    refine propext ⟨fun h => ?_, fun h => ?_⟩
    · obtain ⟨i, _, e⟩ := has_iff.1 h
      obtain rfl : r = s := by omega
      exact ⟨hr, hK⟩
    · exact has_iff.2 ⟨0, by omega, by rw [tally_uniq hS hr h.1 hK h.2]⟩
  have eE : Ed N (fun j => (tg A B F j).length) (fun j i => (tg A B F j).getD i 0) = fun (x y : Nat) => ∃ i, i < F ∧ A i = x ∧ B i = y := by
    funext x y
    refine propext ⟨fun h => has_tg.1 h.2, fun h => ⟨?_, has_tg.2 h⟩⟩
    obtain ⟨i, h1, h2, _⟩ := h
    have := (hE i h1).1
    omega
  have hc : ∀ x, x < N → (R x = true ↔ ∃ k, Wk (fun s => s < N ∧ K s = 1) (fun x y => ∃ i, i < F ∧ A i = x ∧ B i = y) k x) := by
    intro x hx
    rw [hcom x hx]
    unfold Comes
    rw [eP, eE]
  constructor
  · intro h x hx
    refine (hc x hx).1 ?_
    cases e : R x
    · rw [hasB_yes x hx e] at h
      cases h
    · rfl
  · intro h
    rw [hasB_no (fun i hi => by rw [(hc i hi).2 (h i hi)]; decide)]
    rfl

set_option maxHeartbeats 1000000 in
theorem allReached_any (na fa : Option Addr) (N nc F fc : Nat) (M : Nat → ByteArray) (K A B : Nat → Int) (w : World) (hN : N ≤ 20) (hF : F ≤ 30) (hn : Nds w na N M K) (hf : Fls w fa F A B) (he : endsOk N F A B = true) (hs : tally K 1 N = 1) :
    Calls Try.prog 81 #[.agg #[.slice na N nc, .slice fa F fc]] w fun e w' => (∃ x : Bool, e = .returned (.bool x) ∧ (x = true ↔ allCome N F K A B)) ∧ Below w.heap.size w w' := by
  have HN : Hid (Nds w na N M K) := hn
  have HF : Hid (Fls w fa F A B) := hf
  have HE : Hid (∀ i, i < F → (0 ≤ A i ∧ A i < N) ∧ (0 ≤ B i ∧ B i < N)) := endsOk_all he
  have HS : Hid (tally K 1 N = 1) := hs
  clear hn hf he hs
  have hmk := run_make_row' (P := Try.prog) 27 26 (.slice none 0 0) 24 Try.underlying27 Try.info26 rfl .i64 .i64 N (by omega) (by omega)
  obtain ⟨i0, hi, hz0, hz1, hz2⟩ := info_parts Try.info3
  have HI : Hid (Try.prog.info? 3 = some i0 ∧ i0.zero = some (.int .i64 0) ∧ i0.size = 1 ∧ i0.bytes = 8) := ⟨hi, hz0, hz1, hz2⟩
  clear hi hz0 hz1 hz2
  obtain ⟨W1, eW1⟩ : ∃ x, x = w.alloc (.cells #[.slice na N nc, .slice fa F fc] 25) := ⟨_, rfl⟩
  have HW1 : Hid (W1.heap.size = w.heap.size + 1 ∧ Below w.heap.size w W1 ∧ W1.cell? ⟨w.heap.size, 0, none⟩ = some (.slice na N nc)) := by subst eW1; exact ⟨by simp, box_below _ _, cell_of_alloc rfl⟩
  have hS0 : Fam W1 (W1.alloc (.cells (madeCells #[.slice none 0 0] N) 26)) N (tg A B 0) (fun _ => .slice none 0 0) := fam_start W1 N _ (fun _ _ => rfl)
  rw [eW1] at hS0
  have HS0 : Hid (Fam W1 ((w.alloc (.cells #[.slice na N nc, .slice fa F fc] 25)).alloc (.cells (madeCells #[.slice none 0 0] N) 26)) N (tg A B 0) (fun _ => .slice none 0 0)) := by rw [← eW1] at hS0 ⊢; exact hS0
  clear hS0 eW1
  go_enter Try.func81, Try.ntmps81
  go_wp2
  clear hmk
  go_loopw [16] (fun i wr => ∃ k : Nat, k ≤ F ∧ i = .int .i64 k ∧ Hid (∃ V, Fam W1 wr N (tg A B k) V)) (fun i _ => F - (intOf i).toNat)
  case atStart => exact ⟨0, Nat.zero_le _, rfl, hid ⟨_, HS0.out⟩⟩
  case round =>
    obtain ⟨k, hk, rfl, hX⟩ := hrel
    obtain ⟨V, hFam⟩ := hX.out
    have HFam : Hid (Fam W1 wr N (tg A B k) V) := hFam
    clear hX hFam HS0
    have HB : Hid (Below w.heap.size w wr) := HW1.out.2.1.trans (HFam.out.below.mono HW1.out.2.1.size)
    by_cases hlt : k < F
    · obtain ⟨b, o, ha, hc⟩ := HF.out
      obtain rfl := ha (by omega)
      obtain ⟨h1, h2⟩ := Fls.at hc HB.out hlt
      have hE := HE.out k hlt
      obtain ⟨x, hx⟩ : ∃ x : Nat, B k = x := ⟨(B k).toNat, by omega⟩
      obtain ⟨y, hy⟩ : ∃ y : Nat, A k = y := ⟨(A k).toNat, by omega⟩
      have hyN : y < N := by omega
      have hyN' : (y : Int) < N := by omega
      have hy0' : (0 : Int) ≤ (y : Int) := by omega
      have HX : Hid (B k = x ∧ A k = y) := ⟨hx, hy⟩
      rw [hx] at h2
      rw [hy] at h1
      obtain ⟨a2, c2, hv, _⟩ := owns_row (HFam.out.own y hyN)
      have hlen := tg_len A B k y
      generalize hm : (tg A B k y).length = m at *
      have HM : Hid ((tg A B k y).length = m) := hm
      have HV : Hid (V y = .slice a2 m c2) := hv
      have hs1 : w.heap.size + 1 < wr.heap.size := by have := HFam.out.size; have := HW1.out.1; omega
      have htop : wr.cell? ⟨w.heap.size + 1, y, none⟩ = some (.slice a2 m c2) := by rw [← HW1.out.1, HFam.out.top.cell hyN, hv]
      clear hc ha hE hx hy hm hv
      go_wp2
      have HFam2 : Hid (Fam W1 (wr.alloc (.cells #[.int .i64 y, .int .i64 x] 86)) N (tg A B k) V) := HFam.out.alloc _
      have ht2 : (wr.alloc (.cells #[.int .i64 y, .int .i64 x] 86)).cell? ⟨w.heap.size + 1, y, none⟩ = some (.slice a2 m c2) := keep_alloc (Below.refl _ _) htop
      have hf0 : (wr.alloc (.cells #[.int .i64 y, .int .i64 x] 86)).cell? ⟨wr.heap.size, 0, none⟩ = some (.int .i64 y) := cell_of_alloc rfl
      have hf1 : (wr.alloc (.cells #[.int .i64 y, .int .i64 x] 86)).cell? ⟨wr.heap.size, 1, none⟩ = some (.int .i64 x) := cell_of_alloc rfl
      have HSz : Hid (W1.heap.size < wr.heap.size) := by have := HFam.out.size; show _ < _; omega
      clear HFam h1 h2 htop
      generalize hU : wr.alloc (.cells #[.int .i64 y, .int .i64 x] 86) = U at *
      have HUs : Hid (U.heap.size = wr.heap.size + 1) := by show _ = _; rw [← hU]; simp
      have HO : Hid (U.ownsRow (W1.heap.size + 1) 3 1 (.slice a2 m c2) m (vals (tg A B k y))) := by
        have := HFam2.out.own y hyN
        rw [HV.out, HM.out] at this
        exact this
      have HAp : Hid ((Value.slice a2 m c2).ownBlock ≠ some (w.heap.size + 1) ∧ (Value.slice a2 m c2).ownBlock ≠ some wr.heap.size) := by
        have h1 := HFam2.out.own y hyN
        rw [HV.out] at h1
        have h2 := ownBlock_own h1
        refine ⟨fun e => ?_, fun e => ?_⟩
        · have := (h1.lt _ e).1; have := HW1.out.1; omega
        · obtain ⟨c, hc⟩ := h2 _ e
          have hn : U.heap[wr.heap.size]? = some (.cells #[.int .i64 y, .int .i64 x] 86) := by rw [← hU]; exact Go.Deep.blk_alloc_new _ _
          rw [hn] at hc
          simp at hc
      have hUlt : w.heap.size + 1 < U.heap.size := by have := HUs.out; omega
      have hUlt2 : wr.heap.size < U.heap.size := by have := HUs.out; omega
      have hne1 : w.heap.size + 1 ≠ wr.heap.size := by omega
      have hne2 : wr.heap.size ≠ w.heap.size + 1 := by omega
      go_region_law
        ((refine step_append_lies _ (by rfl) _ _ _ (by rfl) (W1.heap.size + 1) 3 i0 _ 1 8 Try.underlying26 HI.out.1 HI.out.2.1 HI.out.2.2.1 HI.out.2.2.2 rfl (by omega) (.slice a2 m c2) m (vals (tg A B k y)) (by rfl) ((HO.out.alloc _).drew)
            ⟨U.heap.size, 0, none⟩ 1 1 [.int .i64 x] (by rfl) (by rfl) (World.news_of_block (cs := #[.int .i64 x]) (t := 3) (fr := (0, 0)) (heap_alloc_new U _)) (by simp [Value.oneCell'])
            (by omega) (by unfold maxLen; omega) (by omega) (by have := HUs.out; have := HSz.out; simp; omega) (U.heap.size + 1) (by simp) ?_; intro gg cap w1 hown1 hgrow hat hlt1; obtain ⟨g1, g2, H3⟩ := famApp HFam2.out hyN HM.out HV.out HW1.out.1 hown1 hgrow hat; have g3 := grown_cell hgrow hf0 HAp.out.2; have g4 := grown_cell hgrow hf1 HAp.out.2))
      all_goals
        clear hown1 hgrow hat
        go_wp2
        go_roundw
        case rel => exact ⟨k + 1, by omega, by go_num, hid ⟨_, Fam.congr H3.out (fun j _ => by rw [← HX.out.1]; exact tg_step A B k y j HX.out.2)⟩⟩
        case measure => simp [intOf]; omega
    · obtain rfl : F = k := by omega
      have hp0 : wr.cell? ⟨w.heap.size, 0, none⟩ = some (.slice na N nc) := by
        rw [HFam.out.below.cell (p := ⟨w.heap.size, 0, none⟩) (by show w.heap.size < W1.heap.size; have := HW1.out.1; omega)]; exact HW1.out.2.2
      have C1 : Hid (Calls Try.prog 109 #[.slice na N nc, .func (.func 110) #[] #[]] wr fun e w' => (∃ r : Nat, e = .returned (.int .i64 r) ∧ r < N ∧ K r = 1) ∧ Below wr.heap.size wr w') := start_any na N nc M K wr (by omega) (HN.out.below HB.out) (tally_pos (by have := HS.out; omega))
      go_wp2_with fail
      refine C1.out.mono ?_
      rintro e w1 ⟨⟨r, rfl, hr, hK⟩, hb1⟩
      have HR : Hid (r < N ∧ K r = 1) := ⟨hr, hK⟩
      have hsz1 : W1.heap.size < wr.heap.size := by have := HFam.out.size; omega
      have C2 : Hid (Calls Try.prog 39 #[.slice (some ⟨w.heap.size + 1, 0, none⟩) N N, .slice (some ⟨w1.heap.size, 0, none⟩) 1 1] (w1.alloc (.cells #[.int .i64 r] 3)) fun e w' => ∃ (b : Nat) (R : Nat → Bool), e = .returned (.tuple #[.slice (some ⟨b, 0, none⟩) N N, .int .i64 0]) ∧ Below (w1.alloc (.cells #[.int .i64 r] 3)).heap.size (w1.alloc (.cells #[.int .i64 r] 3)) w' ∧
          Rowb w' (some ⟨b, 0, none⟩) N R ∧ ∀ x, x < N → (R x = true ↔ Comes N (fun j => (tg A B F j).length) (fun j i => (tg A B F j).getD i 0) 1 (fun _ => r) x)) := by
        have hg : Gr (w1.alloc (.cells #[.int .i64 r] 3)) (some ⟨w.heap.size + 1, 0, none⟩) N (fun j => (tg A B F j).length) (fun j i => (tg A B F j).getD i 0) := by
          rw [← HW1.out.1]; exact (HFam.out.gr.below hb1).below (box_below _ _)
        refine (reach_ok _ N N _ _ _ 1 1 (fun _ => r) _ (fun j _ => by have := tg_len A B F j; omega) (by omega) hg (one_row w1 r) (tg_err HE.out (by omega) hr)).mono ?_
        rintro e w' ⟨b, R, rfl, h1, _, h2, h3⟩
        exact ⟨b, R, rfl, h1, rowb_of_rowIs h2, h3⟩
      have HB1 : Hid (Below w.heap.size w w1) := HB.out.trans (hb1.mono HB.out.size)
      clear hr hK hb1 C1 hp0
      go_wp2_with fail
      refine C2.out.mono ?_
      rintro e w3 ⟨rb, R, rfl, hb3, hrow, hcom⟩
      have HB3 : Hid (Below w.heap.size w w3) := (HB1.out.alloc HB1.out.size _).trans (hb3.mono (by have := HB1.out.size; simp; omega))
      have C3 : Hid (Calls Try.prog 15 #[.slice (some ⟨rb, 0, none⟩) N N, .bool false] w3 fun e w' => e = .returned (.bool (hasB N R false)) ∧ w' = w3) := containsB_any _ N N R w3 (by omega) hrow
      have HQ : Hid ((!(hasB N R false)) = true ↔ allCome N F K A B) := come_iff HE.out HS.out HR.out.1 HR.out.2 hcom
      clear hb3 hrow hcom C2
      generalize hasB N R false = hb at *
      go_wp2_with fail
      refine C3.out.mono ?_
      rintro e w4 ⟨rfl, rfl⟩
      clear C3
      go_wp2
      go_ret
      exact ⟨⟨!hb, rfl, HQ.out⟩, HB3.out⟩

end Go.Proofs.Ythpbgfodejoecaa
