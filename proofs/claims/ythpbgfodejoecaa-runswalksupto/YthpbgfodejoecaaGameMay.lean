/- mayCome. -/
import Derived.Test.YthpbgfodejoecaaGameStep
namespace Go.Proofs.Ythpbgfodejoecaa
open Go.RowKit

/-- 1 where there is a token. -/
def pos (m : Nat → Int) (i : Nat) : Int := if 0 < m i then 1 else 0

theorem pos_yes {m : Nat → Int} {i : Nat} (h : 0 < m i) : pos m i = 1 := by unfold pos; rw [if_pos h]
theorem pos_no {m : Nat → Int} {i : Nat} (h : ¬ 0 < m i) : pos m i ≠ 1 := by unfold pos; rw [if_neg h]; decide
theorem pos_iff {m : Nat → Int} {i : Nat} : pos m i = 1 ↔ 0 < m i := by
  by_cases h : 0 < m i
  · exact iff_of_true (pos_yes h) h
  · exact iff_of_false (pos_no h) h

/-- The answer tells whether P holds. -/
def Told (P : Prop) (e : Ending) : Prop := ∃ x : Bool, e = .returned (.bool x) ∧ (x = true ↔ P)

/-- Can a token come to flow j, without going through node n? -/
def Cm (A B : Nat → Int) (F : Nat) (m : Nat → Int) (n : Int) (j : Nat) : Prop := ∃ k, Wk (fun x => x < F ∧ 0 < m x) (fun a b => a < F ∧ b < F ∧ B a ≠ n ∧ A b = B a) k j

theorem has_fl {X : Nat → Int} {x : Int} {F : Nat} {s : Int} : has (tally X x F) (fun i => (fl X x F).getD i 0) s = true ↔ ∃ j : Nat, s = j ∧ j < F ∧ X j = x := by
  rw [has_iff]
  constructor
  · rintro ⟨i, hi, e⟩
    obtain ⟨j, h1, h2, h3, _⟩ := fl_place hi
    exact ⟨j, by rw [← e]; exact h1, h2, h3⟩
  · rintro ⟨j, rfl, h2, h3⟩
    refine ⟨tally X x j, place_lt h2 h3, ?_⟩
    obtain ⟨i, h4, h5, h6, h7⟩ := fl_place (place_lt h2 h3)
    rw [h4, place_uniq h6 h3 h7]

/-- What mayCome has laid: next till flow k, from till flow q. -/
structure Mc (w wr : World) (c : Array Value) (F : Nat) (B m : Nat → Int) (n : Int) (V : Nat → Value) (k q : Nat) (v : Value) : Prop where
  below : Below (w.heap.size + 1) (w.alloc (.cells c 94)) wr
  nx : wr.rowIs (w.heap.size + 1) 26 F (fun i => if i < k ∧ B i ≠ n then V i else .slice none 0 0)
  frm : wr.ownsRow (w.heap.size + 1 + 1) 3 1 v (tally (pos m) 1 q) (vals (fl (pos m) 1 q))

theorem mc_start (w : World) (c : Array Value) (F : Nat) (B m : Nat → Int) (n : Int) (V : Nat → Value) : Mc w ((w.alloc (.cells c 94)).alloc (.cells (madeCells #[.slice none 0 0] F) 26)) c F B m n V 0 0 (.slice none 0 0) := by
  refine ⟨(Below.refl _ _).alloc (by simp) _, ?_, World.ownsRow_nil _ _ _ _⟩
  have := World.rowIs_made (w.alloc (.cells c 94)) (.slice none 0 0) F 26
  have e : (w.alloc (.cells c 94)).heap.size = w.heap.size + 1 := by simp
  rw [e] at this
  exact this.congr (fun i _ => by simp)

theorem Mc.alloc {w wr : World} {c : Array Value} {F : Nat} {B m : Nat → Int} {n : Int} {V : Nat → Value} {k q : Nat} {v : Value} (h : Mc w wr c F B m n V k q v) (o : Obj) : Mc w (wr.alloc o) c F B m n V k q v :=
  ⟨h.below.alloc (by have := h.nx.lt; omega) o, h.nx.alloc o, h.frm.alloc o⟩

theorem mc_nx {B : Nat → Int} {n : Int} {V : Nat → Value} {k : Nat} (hk : B k ≠ n) (i : Nat) : (if i = k then V k else if i < k ∧ B i ≠ n then V i else .slice none 0 0) = (if i < k + 1 ∧ B i ≠ n then V i else .slice none 0 0) := by
  by_cases e : i = k
  · subst e
    rw [if_pos rfl, if_pos ⟨by omega, hk⟩]
  · rw [if_neg e]
    by_cases c : i < k ∧ B i ≠ n
    · rw [if_pos c, if_pos ⟨by omega, c.2⟩]
    · rw [if_neg c, if_neg (fun h => c ⟨by omega, h.2⟩)]

theorem Mc.set {w wr : World} {c : Array Value} {F : Nat} {B m : Nat → Int} {n : Int} {V : Nat → Value} {k q : Nat} {v : Value} (h : Mc w wr c F B m n V k q v) (hk : B k ≠ n) : Mc w (wr.setCell ⟨w.heap.size + 1, k, none⟩ (V k)) c F B m n V (k + 1) q v :=
  ⟨h.below.setCell (by show w.heap.size + 1 ≤ w.heap.size + 1; omega) _, (h.nx.set k _).congr (fun i _ => mc_nx hk i), ownsRow_setCell_below h.frm (by show w.heap.size + 1 < _; omega) _⟩

theorem Mc.pass {w wr : World} {c : Array Value} {F : Nat} {B m : Nat → Int} {n : Int} {V : Nat → Value} {k q : Nat} {v : Value} (h : Mc w wr c F B m n V k q v) (hk : B k = n) : Mc w wr c F B m n V (k + 1) q v :=
  ⟨h.below, h.nx.congr (fun i _ => by
    by_cases c : i < k ∧ B i ≠ n
    · rw [if_pos c, if_pos ⟨by omega, c.2⟩]
    · rw [if_neg c, if_neg]
      intro h2
      refine c ⟨?_, h2.2⟩
      have : i ≠ k := fun e => h2.2 (by rw [e]; exact hk)
      omega), h.frm⟩

theorem Mc.skip {w wr : World} {c : Array Value} {F : Nat} {B m : Nat → Int} {n : Int} {V : Nat → Value} {k q : Nat} {v : Value} (h : Mc w wr c F B m n V k q v) (hp : ¬ 0 < m q) : Mc w wr c F B m n V k (q + 1) v :=
  ⟨h.below, h.nx, by rw [tally_miss (pos_no hp), fl_miss (pos_no hp)]; exact h.frm⟩

theorem mc_app {w wr w1 : World} {c : Array Value} {F : Nat} {B m : Nat → Int} {n : Int} {V : Nat → Value} {k q : Nat} {v v' : Value} {a b : Value} {o : Obj} (h : Mc w wr c F B m n V k q v) (hp : 0 < m q)
    (hown : w1.ownsRow (w.heap.size + 1 + 1) 3 1 v' (tally (pos m) 1 q + 1) (vals (fl (pos m) 1 q) ++ [.int .i64 q])) (hgrow : ((wr.alloc (.cells #[a, b] 86)).alloc o).grownBy w1 v.ownBlock) :
    (∃ a c, v' = .slice a (tally (pos m) 1 q + 1) c) ∧ w1.cell? ⟨wr.heap.size, 1, none⟩ = some b ∧ Hid (Mc w w1 c F B m n V k (q + 1) v') := by
  have hlt := h.nx.lt
  have hrow : ∀ b, v.ownBlock = some b → w.heap.size + 1 + 1 ≤ b ∧ b < wr.heap.size := h.frm.lt
  have hg : wr.grownBy w1 v.ownBlock := ((World.grownBy_alloc _ _ _).trans (World.grownBy_alloc _ _ _)).trans hgrow
  refine ⟨?_, ?_, hid ⟨?_, ?_, ?_⟩⟩
  · rcases hown.2 with ⟨_, h0⟩ | ⟨g, cap, cur, rfl, _⟩
    · omega
    · exact ⟨_, _, rfl⟩
  · refine hgrow.cell (a := ⟨wr.heap.size, 1, none⟩) ?_ (fun e => ?_)
    · exact keep_alloc (Below.refl _ _) (cell_of_alloc rfl)
    · have := (hrow _ e.symm).2
      exact absurd this (Nat.lt_irrefl _)
  · exact h.below.grown hg (by omega) (fun b hb => by have := (hrow b hb).1; omega)
  · exact h.nx.of_block (hg.block _ hlt (fun e => by have := (hrow _ e.symm).1; omega))
  · rw [tally_hit (pos_yes hp), fl_hit (pos_yes hp), ← vals_snoc]
    exact hown

/-- Rows of a list of lists, by functions. -/
theorem gr_rows {w : World} {ga : Option Addr} {G : Nat} {L : Nat → Nat} {Z : Nat → Nat → Int} (h : Gr w ga G L Z) :
    ∃ (gb go : Nat) (af : Nat → Option Addr) (cf : Nat → Nat), (0 < G → ga = some ⟨gb, go, none⟩) ∧ ∀ r, r < G → w.cell? ⟨gb, go + r, none⟩ = some (.slice (af r) (L r) (cf r)) ∧ Row w (af r) (L r) (Z r) := by
  obtain ⟨gb, go, h1, h2⟩ := h
  have h3 : ∀ r, ∃ p : Option Addr × Nat, r < G → w.cell? ⟨gb, go + r, none⟩ = some (.slice p.1 (L r) p.2) ∧ Row w p.1 (L r) (Z r) := by
    intro r
    by_cases hr : r < G
    · obtain ⟨a, c, h4, h5⟩ := h2 r hr
      exact ⟨(a, c), fun _ => ⟨h4, h5⟩⟩
    · exact ⟨(none, 0), fun hh => absurd hh hr⟩
  obtain ⟨f, hf⟩ := Classical.skolem.1 h3
  exact ⟨gb, go, fun r => (f r).1, fun r => (f r).2, h1, hf⟩

def nxL (A B : Nat → Int) (F : Nat) (n : Int) (i : Nat) : Nat := if B i ≠ n then tally A (B i) F else 0
def nxZ (A B : Nat → Int) (F : Nat) (i q : Nat) : Int := (fl A (B i) F).getD q 0

theorem Mc.gr {w wr : World} {c : Array Value} {F N : Nat} {A B m : Nat → Int} {n : Int} {v : Value} {af : Nat → Option Addr} {cf : Nat → Nat} (h : Mc w wr c F B m n (fun i => .slice (af (B i).toNat) (tally A (B i) F) (cf (B i).toNat)) F F v) (hE : ∀ i, i < F → (0 ≤ A i ∧ A i < N) ∧ (0 ≤ B i ∧ B i < N))
    (hR : ∀ r, r < N → Row w (af r) (tally A r F) (fun i => (fl A r F).getD i 0)) : Gr wr (some ⟨w.heap.size + 1, 0, none⟩) F (nxL A B F n) (nxZ A B F) := by
  have hB : Below w.heap.size w wr := (box_below _ _).trans (h.below.mono (by omega))
  refine ⟨w.heap.size + 1, 0, fun _ => rfl, fun r hr => ?_⟩
  rw [Nat.zero_add, h.nx.cell hr]
  unfold nxL
  by_cases e : B r ≠ n
  · rw [if_pos ⟨hr, e⟩, if_pos e]
    have h1 := (hE r hr).2
    have h2 := (hR (B r).toNat (by omega)).below hB
    rw [Int.toNat_of_nonneg h1.1] at h2
    exact ⟨_, _, rfl, h2⟩
  · rw [if_neg (fun hh => e hh.2), if_neg e]
    exact ⟨_, _, rfl, row_zero _ _ _⟩

theorem nx_err {F : Nat} {A B m : Nat → Int} {n : Int} (hF : F ≤ 30) : errF F (nxL A B F n) (nxZ A B F) (tally (pos m) 1 F) (fun i => (fl (pos m) 1 F).getD i 0) = 0 := by
  have hg : errG F (nxL A B F n) (nxZ A B F) = 0 := by
    refine errG_ok (by omega) (okG_yes (fun j hj => allIn_yes (fun i hi => ?_)))
    unfold nxL at hi
    by_cases e : B j ≠ n
    · rw [if_pos e] at hi
      obtain ⟨q, h1, h2, _⟩ := fl_place hi
      unfold nxZ
      rw [h1]
      omega
    · rw [if_neg e] at hi
      omega
  unfold errF
  rw [if_pos hg, if_pos (allIn_yes (fun i hi => ?_))]
  obtain ⟨q, h1, h2, _⟩ := fl_place hi
  rw [h1]
  omega

theorem nx_comes {F : Nat} {A B m : Nat → Int} {n : Int} {x : Nat} : Comes F (nxL A B F n) (nxZ A B F) (tally (pos m) 1 F) (fun i => (fl (pos m) 1 F).getD i 0) x ↔ Cm A B F m n x := by
  have eP : Src (tally (pos m) 1 F) (fun i => (fl (pos m) 1 F).getD i 0) = fun s => s < F ∧ 0 < m s := by
    funext s
    refine propext ⟨fun h => ?_, fun h => ?_⟩
    · obtain ⟨j, h1, h2, h3⟩ := has_fl.1 h
      obtain rfl : s = j := by omega
      exact ⟨h2, pos_iff.1 h3⟩
    · exact has_fl.2 ⟨s, rfl, h.1, pos_iff.2 h.2⟩
  have eE : Ed F (nxL A B F n) (nxZ A B F) = fun (a b : Nat) => a < F ∧ b < F ∧ B a ≠ n ∧ A b = B a := by
    funext a b
    refine propext ⟨fun h => ?_, fun h => ?_⟩
    · obtain ⟨h1, h2⟩ := h
      unfold nxL at h2
      by_cases e : B a ≠ n
      · rw [if_pos e] at h2
        obtain ⟨j, h3, h4, h5⟩ := has_fl.1 h2
        obtain rfl : b = j := by omega
        exact ⟨h1, h4, e, h5⟩
      · rw [if_neg e, has_zero] at h2
        cases h2
    · refine ⟨h.1, ?_⟩
      unfold nxL
      rw [if_pos h.2.2.1]
      exact has_fl.2 ⟨b, rfl, h.2.1, h.2.2.2⟩
  unfold Comes Cm
  rw [eP, eE]

set_option maxHeartbeats 2000000 in
theorem mayCome_any {na fa sa ia oa : Option Addr} {N nc F fc sc ic oc Sn : Nat} {M : Nat → ByteArray} {K A B : Nat → Int} {l : List St3} {w : World} (h : Brd w na N nc fa F sa ia oa M K A B l) {ma : Option Addr} {mc : Nat} {m : Nat → Int} (hm : Row w ma F m) {n : Nat} (hn : n < N) :
    Calls Try.prog 100 #[.agg #[.slice na N nc, .slice fa F fc, .slice sa Sn sc, .slice ia N ic, .slice oa N oc], .slice ma F mc, .int .i64 n] w fun e w' => Told (∃ j, j < F ∧ B j = n ∧ m j = 0 ∧ Cm A B F m n j) e ∧ Below w.heap.size w w' := by
  have HF : Hid (Fls w fa F A B) := h.prc.fls
  have hz := chk_zero h.chk
  have HE : Hid (∀ i, i < F → (0 ≤ A i ∧ A i < N) ∧ (0 ≤ B i ∧ B i < N)) := endsOk_all hz.2.2.1
  have hF30 : F ≤ 30 := hz.1.2
  have hN20 : N ≤ 20 := hz.1.1
  have HIn : Hid (Gr w ia N (fun j => tally B j F) (fun j i => (fl B j F).getD i 0)) := h.ins
  obtain ⟨gb, go, af, cf, hga, hrows⟩ := gr_rows h.outs
  obtain rfl := hga (by omega)
  have HO : Hid (∀ r, r < N → w.cell? ⟨gb, go + r, none⟩ = some (.slice (af r) (tally A r F) (cf r)) ∧ Row w (af r) (tally A r F) (fun i => (fl A r F).getD i 0)) := hrows
  obtain ⟨mb, mo, hma, hmc⟩ := hm
  have HM : Hid (∀ i, i < F → w.cell? ⟨mb, mo + i, none⟩ = some (.int .i64 (m i))) := hmc
  clear hz h hrows hmc hga
  have hmk := run_make_row' (P := Try.prog) 27 26 (.slice none 0 0) 24 Try.underlying27 Try.info26 rfl .i64 .i64 F (by omega) (by omega)
  obtain ⟨i0, hi, hz0, hz1, hz2⟩ := info_parts Try.info3
  have HI : Hid (Try.prog.info? 3 = some i0 ∧ i0.zero = some (.int .i64 0) ∧ i0.size = 1 ∧ i0.bytes = 8) := ⟨hi, hz0, hz1, hz2⟩
  clear hi hz0 hz1 hz2
  have HS : Hid (Mc w ((w.alloc (.cells #[.slice na N nc, .slice fa F fc, .slice sa Sn sc, .slice ia N ic, .slice (some ⟨gb, go, none⟩) N oc] 94)).alloc (.cells (madeCells #[.slice none 0 0] F) 26)) #[.slice na N nc, .slice fa F fc, .slice sa Sn sc, .slice ia N ic, .slice (some ⟨gb, go, none⟩) N oc] F B m n (fun i => .slice (af (B i).toNat) (tally A (B i) F) (cf (B i).toNat)) 0 0 (.slice none 0 0)) := mc_start _ _ _ _ _ _ _
  go_enter Try.func100, Try.ntmps100
  go_wp2
  clear hmk
  go_loopw [7, 22] (fun v i wr => ∃ (k : Nat) (va : Option Addr) (vc : Nat), k ≤ F ∧ i = .int .i64 k ∧ v = .slice va (tally (pos m) 1 k) vc ∧ Hid (Mc w wr #[.slice na N nc, .slice fa F fc, .slice sa Sn sc, .slice ia N ic, .slice (some ⟨gb, go, none⟩) N oc] F B m n (fun i => .slice (af (B i).toNat) (tally A (B i) F) (cf (B i).toNat)) k k (.slice va (tally (pos m) 1 k) vc))) (fun _ i _ => F - (intOf i).toNat)
  case atStart => exact ⟨0, none, 0, Nat.zero_le _, rfl, rfl, HS.out⟩
  case round =>
    obtain ⟨k, va, vc, hk, rfl, rfl, HT⟩ := hrel
    clear HS
    have HB : Hid (Below w.heap.size w wr) := (box_below _ _).trans (HT.out.below.mono (by omega))
    have hs1 : w.heap.size + 1 < wr.heap.size := HT.out.nx.lt
    have hs0 : w.heap.size < wr.heap.size := by omega
    have hp4 : wr.cell? ⟨w.heap.size, 4, none⟩ = some (.slice (some ⟨gb, go, none⟩) N oc) := box_keep HT.out.below rfl
    by_cases hlt : k < F
    · obtain ⟨b, o, ha, hc⟩ := HF.out
      obtain rfl := ha (by omega)
      obtain rfl := hma (by omega)
      obtain ⟨h1, h2⟩ := Fls.at hc HB.out hlt
      have hE := HE.out k hlt
      obtain ⟨x, hx⟩ : ∃ x : Nat, B k = x := ⟨(B k).toNat, by omega⟩
      have hxN : x < N := by omega
      have hxN' : (x : Int) < N := by omega
      have HX : Hid (B k = x) := hx
      rw [hx] at h2
      have hmk' := row_at HM.out HB.out hlt
      have hml : mb < wr.heap.size := World.block_lt_of_cell? _ _ hmk'
      have hoc : wr.cell? ⟨gb, go + x, none⟩ = some (.slice (af x) (tally A x F) (cf x)) := by
        have := (HO.out x hxN).1
        rw [HB.out.cell (p := ⟨gb, go + x, none⟩) (World.block_lt_of_cell? _ _ this)]; exact this
      have hgl : gb < wr.heap.size := World.block_lt_of_cell? _ _ hoc
      have HVx : Hid (Value.slice (af (B k).toNat) (tally A (B k) F) (cf (B k).toNat) = .slice (af x) (tally A x F) (cf x)) := by show Value.slice _ _ _ = _; rw [hx]; simp
      have hn1 : wr.cell? ⟨w.heap.size + 1, k, none⟩ = some (.slice none 0 0) := by
        have := HT.out.nx.cell hlt
        rw [if_neg (by omega)] at this
        exact this
      have hn2 := HT.out.nx.frozen k
      have htl := tally_le (pos m) 1 k
      clear hc ha hE hx
      by_cases hp : 0 < m k
      · have HPk : Hid (0 < m k) := hp
        by_cases hB : x = n
        · have hB' : ((x : Int) != n) = false := by subst hB; simp
          have HBn : Hid (x = n) := hB
          clear hB
          go_wp2_with (at_builtin; refine wpList_append_own_at _ rfl _ _ 26 rfl (w.heap.size + 1 + 1) 3 i0 (.int .i64 0) 1 8 Try.underlying26 HI.out.1 HI.out.2.1 HI.out.2.2.1 HI.out.2.2.2 rfl (by decide) _ _ _ rfl ((HT.out.frm.alloc _).alloc _) ⟨wr.heap.size + 1, 0, none⟩ 1 1 [.int .i64 k] rfl rfl (cell_one_new' _ _ _ _ (by simp)) (ints_oneCell .i64 [(k : Int)]) (by unfold maxLen; omega) (by omega) (by simp; omega) ?_; intro v' w1 hown' hgrow hnil hloc; obtain ⟨⟨a4, c4, rfl⟩, g1, H4⟩ := mc_app HT.out HPk.out hown' hgrow; clear hown' hgrow hnil hloc)
          go_roundw
          case rel => exact ⟨k + 1, a4, c4, by omega, by go_num, by rw [tally_hit (pos_yes HPk.out)], by have := H4.out.pass (by rw [HX.out, HBn.out]); rw [tally_hit (pos_yes HPk.out)]; exact this⟩
          case measure => simp [intOf]; omega
        · have hB' : ((x : Int) != n) = true := by rw [bne_iff_ne]; omega
          have HBn : Hid (x ≠ n) := hB
          clear hB
          go_wp2_with (at_builtin; refine wpList_append_own_at _ rfl _ _ 26 rfl (w.heap.size + 1 + 1) 3 i0 (.int .i64 0) 1 8 Try.underlying26 HI.out.1 HI.out.2.1 HI.out.2.2.1 HI.out.2.2.2 rfl (by decide) _ _ _ rfl ((HT.out.frm.alloc _).alloc _) ⟨wr.heap.size + 1, 0, none⟩ 1 1 [.int .i64 k] rfl rfl (cell_one_new' _ _ _ _ (by simp)) (ints_oneCell .i64 [(k : Int)]) (by unfold maxLen; omega) (by omega) (by simp; omega) ?_; intro v' w1 hown' hgrow hnil hloc; obtain ⟨⟨a4, c4, rfl⟩, g1, H4⟩ := mc_app HT.out HPk.out hown' hgrow; clear hown' hgrow hnil hloc; have g2 : w1.cell? ⟨w.heap.size, 4, none⟩ = some (.slice (some ⟨gb, go, none⟩) N oc) := box_keep H4.out.below rfl; have g3 : w1.cell? ⟨gb, go + x, none⟩ = some (.slice (af x) (tally A x F) (cf x)) := (((box_below _ _).trans (H4.out.below.mono (by omega))).cell (p := ⟨gb, go + x, none⟩) (World.block_lt_of_cell? _ _ (HO.out x hxN).1)).trans (HO.out x hxN).1; have g4 : w1.cell? ⟨w.heap.size + 1, k, none⟩ = some (.slice none 0 0) := (H4.out.nx.cell hlt).trans (by rw [if_neg (by omega)]); have g5 := H4.out.nx.frozen k)
          go_roundw
          case rel => exact ⟨k + 1, a4, c4, by omega, by go_num, by rw [tally_hit (pos_yes HPk.out)], by have := H4.out.set (by rw [HX.out]; have := HBn.out; omega); rw [HVx.out] at this; rw [tally_hit (pos_yes HPk.out)]; exact this⟩
          case measure => simp [intOf]; omega
      · have HPk : Hid (¬ 0 < m k) := hp
        have HTl : Hid (tally (pos m) 1 (k + 1) = tally (pos m) 1 k) := tally_miss (pos_no hp)
        by_cases hB : x = n
        · have hB' : ((x : Int) != n) = false := by subst hB; simp
          have HBn : Hid (x = n) := hB
          clear hB
          go_wp2
          go_roundw
          case rel => exact ⟨k + 1, va, vc, by omega, by go_num, by rw [HTl.out], by rw [HTl.out]; exact ((HT.out.skip HPk.out).pass (by rw [HX.out, HBn.out])).alloc _⟩
          case measure => simp [intOf]; omega
        · have hB' : ((x : Int) != n) = true := by rw [bne_iff_ne]; omega
          have HBn : Hid (x ≠ n) := hB
          clear hB
          go_wp2
          go_roundw
          case rel => exact ⟨k + 1, va, vc, by omega, by go_num, by rw [HTl.out], by have := ((HT.out.skip HPk.out).set (by rw [HX.out]; have := HBn.out; omega)); rw [HVx.out] at this; rw [HTl.out]; exact this.alloc _⟩
          case measure => simp [intOf]; omega
    · obtain rfl : F = k := by omega
      have C : Hid (Calls Try.prog 39 #[.slice (some ⟨w.heap.size + 1, 0, none⟩) F F, .slice va (tally (pos m) 1 F) vc] wr fun e w' => ∃ (b : Nat) (R : Nat → Bool), e = .returned (.tuple #[.slice (some ⟨b, 0, none⟩) F F, .int .i64 0]) ∧ Below wr.heap.size wr w' ∧ wr.heap.size ≤ b ∧ w'.rowIs b 4 F (fun i => .bool (R i)) ∧
          ∀ x, x < F → (R x = true ↔ Comes F (nxL A B F n) (nxZ A B F) (tally (pos m) 1 F) (fun i => (fl (pos m) 1 F).getD i 0) x)) :=
        reach_ok _ F F _ _ _ _ vc _ _ (fun r _ => by unfold nxL; have := tally_le A (B r) F; split <;> omega) (by have := tally_le (pos m) 1 F; omega) (HT.out.gr HE.out (fun r hr => (HO.out r hr).2)) (fl_row HT.out.frm) (nx_err hF30)
      go_wp2_with fail
      refine C.out.mono ?_
      rintro e w3 ⟨rb, R, rfl, hb3, hrb, hrow, hcom⟩
      have HB3 : Hid (Below w.heap.size w w3) := HB.out.trans (hb3.mono HB.out.size)
      have hp3 : w3.cell? ⟨w.heap.size, 3, none⟩ = some (.slice ia N ic) := by
        rw [hb3.cell (p := ⟨w.heap.size, 3, none⟩) hs0]; exact box_keep HT.out.below rfl
      have HRw : Hid (w3.rowIs rb 4 F (fun i => .bool (R i))) := hrow
      have HRc : Hid (∀ x, x < F → (R x = true ↔ Cm A B F m n x)) := fun x hx => (hcom x hx).trans nx_comes
      obtain ⟨ib, io, rfl, _, ra, rc, hr1, hr2, _⟩ := HIn.out.at HB3.out hn
      have HIr : Hid (Row w3 ra (tally B n F) (fun i => (fl B n F).getD i 0)) := hr2
      have htl := tally_le B n F
      clear hb3 hrow hcom hr2 C HT HB hp4 hs1 hs0
      go_wp2
      go_loop [62] (fun i => ∃ k : Nat, k ≤ tally B n F ∧ i = .int .i64 k ∧ Hid (∀ j, j < F → B j = n → tally B n j < k → ¬ (m j = 0 ∧ Cm A B F m n j))) (fun i => tally B n F - (intOf i).toNat)
      case atStart => exact ⟨0, Nat.zero_le _, rfl, hid (fun j _ _ hj => absurd hj (Nat.not_lt_zero _))⟩
      case round =>
        obtain ⟨k, hk, rfl, HJ⟩ := hrel
        by_cases hlt : k < tally B n F
        · obtain ⟨j, hj1, hj2, hj3, hj4⟩ := fl_place hlt
          obtain ⟨b, o, ha, hc⟩ := HIr.out
          obtain rfl := ha (by omega)
          have hck := hc k hlt
          have hck' : w3.cell? ⟨b, o + k, none⟩ = some (.int .i64 (j : Nat)) := by rw [hck]; exact congrArg (fun q => some (Value.int .i64 q)) hj1
          obtain rfl := hma (by omega)
          have hmj := row_at HM.out HB3.out hj2
          have hrj := HRw.out.cell hj2
          have hjF : (j : Int) < F := by omega
          have HR1 := HRc.out j hj2
          have HJ1 : Hid (R j = true ↔ Cm A B F m n j) := HR1
          have HJj : Hid (j < F ∧ B j = n ∧ tally B n j = k) := ⟨hj2, hj3, hj4⟩
          clear hck hc ha hj1 hj3 hj4 HR1
          by_cases hz : m j = 0
          · have hz' : (m j == 0) = true := beq_iff_eq.2 hz
            have HZ : Hid (m j = 0) := hz
            clear hz
            cases hR : R j
            · have HRn : Hid (¬ Cm A B F m n j) := fun hh => by have := HJ1.out.2 hh; rw [hR] at this; cases this
              rw [hR] at hrj
              clear hR
              go_wp2
              go_round
              case rel =>
                refine ⟨k + 1, by omega, by go_num, hid (fun i h1 h2 h3 => ?_)⟩
                by_cases e : tally B n i < k
                · exact HJ.out i h1 h2 e
                · obtain rfl : i = j := place_uniq h2 HJj.out.2.1 (by have := HJj.out.2.2; omega)
                  exact fun hh => HRn.out hh.2
              case measure => simp [intOf]; omega
            · have HRn : Hid (Cm A B F m n j) := HJ1.out.1 hR
              rw [hR] at hrj
              clear hR
              go_wp2
              go_ret
              exact ⟨⟨true, rfl, iff_of_true rfl ⟨j, HJj.out.1, HJj.out.2.1, HZ.out, HRn.out⟩⟩, HB3.out⟩
          · have hz' : (m j == 0) = false := beq_eq_false_iff_ne.2 hz
            have HZ : Hid (m j ≠ 0) := hz
            clear hz
            go_wp2
            go_round
            case rel =>
              refine ⟨k + 1, by omega, by go_num, hid (fun i h1 h2 h3 => ?_)⟩
              by_cases e : tally B n i < k
              · exact HJ.out i h1 h2 e
              · obtain rfl : i = j := place_uniq h2 HJj.out.2.1 (by have := HJj.out.2.2; omega)
                exact fun hh => HZ.out hh.1
            case measure => simp [intOf]; omega
        · obtain rfl : tally B n F = k := by omega
          go_wp2
          go_ret
          refine ⟨⟨false, rfl, iff_of_false (by decide) ?_⟩, HB3.out⟩
          rintro ⟨j, h1, h2, h3, h4⟩
          exact HJ.out j h1 h2 (place_lt h1 h2) ⟨h3, h4⟩

end Go.Proofs.Ythpbgfodejoecaa
