/- The fair sets. -/
import Derived.Test.YthpbgfodejoecaaGngJ
namespace Go.Proofs.Ythpbgfodejoecaa
open Go.RowKit

/-- Is a state out of the fair set of step q? 1: it is in it. -/
def fsX (L : Nat → Nat) (S : Nat → Nat → Int) (T : Nat → St3) (q : Int) (i : Nat) : Int := if has (L (T i).1.toNat) (S (T i).1.toNat) q = true ∧ (T i).2.1 ≠ q then 0 else 1
def fsL (L : Nat → Nat) (S : Nat → Nat → Int) (T : Nat → St3) (n : Nat) (q : Int) : List Int := fl (fsX L S T q) 1 n
theorem fsX_out {L : Nat → Nat} {S : Nat → Nat → Int} {T : Nat → St3} {q : Int} {i : Nat} (h : has (L (T i).1.toNat) (S (T i).1.toNat) q = true) (h2 : (T i).2.1 ≠ q) : fsX L S T q i ≠ 1 := by unfold fsX; rw [if_pos ⟨h, h2⟩]; decide
theorem fsX_can {L : Nat → Nat} {S : Nat → Nat → Int} {T : Nat → St3} {q : Int} {i : Nat} (h : has (L (T i).1.toNat) (S (T i).1.toNat) q = false) : fsX L S T q i = 1 := by unfold fsX; rw [if_neg (by rw [h]; simp)]
theorem fsX_own {L : Nat → Nat} {S : Nat → Nat → Int} {T : Nat → St3} {q : Int} {i : Nat} (h : (T i).2.1 = q) : fsX L S T q i = 1 := by unfold fsX; rw [if_neg (fun hh => hh.2 h)]

/-- The rows when q sets are whole, and k states have been looked at for the next one. -/
def fsT (L : Nat → Nat) (S : Nat → Nat → Int) (T : Nat → St3) (n q k j : Nat) : List Int := if j < q then fsL L S T n j else if j = q then fl (fsX L S T (q : Nat)) 1 k else []
theorem fsT_here {L : Nat → Nat} {S : Nat → Nat → Int} {T : Nat → St3} {n q k : Nat} : fsT L S T n q k q = fl (fsX L S T (q : Nat)) 1 k := by unfold fsT; rw [if_neg (by omega), if_pos rfl]
theorem fsT_next {L : Nat → Nat} {S : Nat → Nat → Int} {T : Nat → St3} {n q j : Nat} : fsT L S T n q n j = fsT L S T n (q + 1) 0 j := by
  unfold fsT
  by_cases h1 : j < q
  · rw [if_pos h1, if_pos (by omega)]
  · by_cases h2 : j = q
    · subst h2; rw [if_neg h1, if_pos rfl, if_pos (by omega)]; rfl
    · rw [if_neg h1, if_neg h2, if_neg (show ¬ j < q + 1 by omega)]
      by_cases h3 : j = q + 1
      · rw [if_pos h3]; rfl
      · rw [if_neg h3]
theorem fsT_hit {L : Nat → Nat} {S : Nat → Nat → Int} {T : Nat → St3} {n q k j : Nat} (h : fsX L S T (q : Nat) k = 1) : (if j = q then fl (fsX L S T (q : Nat)) 1 k ++ [(k : Int)] else fsT L S T n q k j) = fsT L S T n q (k + 1) j := by
  by_cases e : j = q
  · subst e
    rw [if_pos rfl, fsT_here, fl_hit h]
  · rw [if_neg e]
    unfold fsT
    rw [if_neg e, if_neg e]
theorem fsT_miss {L : Nat → Nat} {S : Nat → Nat → Int} {T : Nat → St3} {n q k j : Nat} (h : fsX L S T (q : Nat) k ≠ 1) : fsT L S T n q k j = fsT L S T n q (k + 1) j := by
  unfold fsT
  by_cases e : j = q
  · rw [if_pos e, if_pos e, fl_miss h]
  · rw [if_neg e, if_neg e]
theorem fsT_end {L : Nat → Nat} {S : Nat → Nat → Int} {T : Nat → St3} {n q j : Nat} (h : j < q) : fsT L S T n q 0 j = fsL L S T n j := by unfold fsT; rw [if_pos h]

theorem grow_other {w w1 : World} {v v' : Value} {o : Obj} {b : Nat} (hb : b < w.heap.size) (hne : v.ownBlock ≠ some b) (hg : (w.alloc o).grownBy w1 v.ownBlock) (hl : v'.ownBlock = v.ownBlock ∨ v'.ownBlock = some (w.alloc o).heap.size) : w1.heap[b]? = w.heap[b]? ∧ v'.ownBlock ≠ some b := by
  refine ⟨((World.grownBy_alloc _ _ _).trans hg).block b hb (fun e => hne e.symm), fun e => ?_⟩
  rcases hl with h | h
  · exact hne (h.symm.trans e)
  · rw [h] at e
    have h1 : (w.alloc o).heap.size = w.heap.size + 1 := by simp
    injection e with e
    omega

set_option maxHeartbeats 4000000 in
theorem fairSets_any (ma xa a : Option Addr) (ml mc G xc n c m : Nat) (L : Nat → Nat) (S Z : Nat → Nat → Int) (T : Nat → St3) (w : World) (hG : G ≤ 200) (hn : n ≤ 600) (hm : m ≤ 60) (h60 : ∀ r, r < G → L r ≤ 60) (h : Egs w xa G L S Z) (hT : Sts w a n T) (hA : ∀ i, i < n → 0 ≤ (T i).1 ∧ (T i).1 < G) :
    Calls Try.prog 26 #[.agg #[.slice ma ml mc, .slice xa G xc], .slice a n c, .int .i64 m] w fun e w' => ∃ b, e = .returned (.slice (some ⟨b, 0, none⟩) m m) ∧ Hid (Below w.heap.size w w' ∧ Lie w.heap.size noB (fun z => Gc z (some ⟨b, 0, none⟩) m (fun j => (fsL L S T n j).length) (fun j i => (fsL L S T n j).getD i 0)) w') := by
  have hmk := run_make_row' (P := Try.prog) 27 26 (.slice none 0 0) 24 Try.underlying27 Try.info26 rfl .i64 .i64 m (by omega) (by omega)
  obtain ⟨i0, hi, hz0, hz1, hz2⟩ := info_parts Try.info3
  have HI : Hid (Try.prog.info? 3 = some i0 ∧ i0.zero = some (.int .i64 0) ∧ i0.size = 1 ∧ i0.bytes = 8) := ⟨hi, hz0, hz1, hz2⟩
  obtain ⟨W, eW⟩ : ∃ x, x = w.alloc (.cells #[.slice ma ml mc, .slice xa G xc] 37) := ⟨_, rfl⟩
  have HW : Hid (Below w.heap.size w W) := by subst eW; exact box_below _ _
  have hc0 : W.cell? ⟨w.heap.size, 0, none⟩ = some (.slice ma ml mc) := by subst eW; exact cell_of_alloc rfl
  have hc1 : W.cell? ⟨w.heap.size, 1, none⟩ = some (.slice xa G xc) := by subst eW; exact cell_of_alloc rfl
  have HEW : w.alloc (.cells #[.slice ma ml mc, .slice xa G xc] 37) = W := eW.symm
  have HC0 := hid hc0
  have HC1 := hid hc1
  have HE := hid (h.below HW.out)
  obtain ⟨b, o, ha, hc⟩ := hT
  have HC := hid (fun i hi => (⟨below_c HW.out (hc i hi).1, below_c HW.out (hc i hi).2.1, below_c HW.out (hc i hi).2.2⟩ : W.cell? ⟨b, o + i * 3, none⟩ = some (.int .i64 (T i).1) ∧ W.cell? ⟨b, o + i * 3 + 1, none⟩ = some (.int .i64 (T i).2.1) ∧ W.cell? ⟨b, o + i * 3 + 2, none⟩ = some (.int .i64 (T i).2.2)))
  have H60 := hid h60
  have HA := hid hA
  clear hi hz0 hz1 hz2 hc0 hc1 hc h h60 hA eW
  go_enter Try.func26, Try.ntmps26
  go_wp2
  clear hmk
  go_loopw [16] (fun i wr => ∃ q : Nat, q ≤ m ∧ i = .int .i64 q ∧ Hid (∃ V, Fam W wr m (fsT L S T n q 0) V)) (fun i _ => m - (intOf i).toNat)
  case atStart => exact ⟨0, Nat.zero_le _, rfl, hid ⟨_, fam_start W m _ (fun j _ => by unfold fsT; rw [if_neg (by omega)]; split <;> rfl)⟩⟩
  case round =>
    obtain ⟨q, hq, rfl, HS⟩ := hrel
    obtain ⟨V, hF⟩ := HS.out
    by_cases hlt : q < m
    · have hp0 := below_c hF.below HC0.out
      have hp1 := below_c hF.below HC1.out
      have C := hid (enabledAt_any ma xa ml mc G xc L S Z (q : Nat) wr hG H60.out (HE.out.below hF.below))
      have HF := hid hF
      clear hF HS
      go_wp2_with fail
      refine C.out.mono ?_
      rintro e w2 ⟨eb, rfl, HX⟩
      have HF2 : Hid (Fam W w2 m (fsT L S T n q 0) V) := hid ⟨HF.out.below.trans (HX.out.1.mono HF.out.below.size), HF.out.top.of_block (HX.out.1.block _ HF.out.top.lt), fun j hj => below_ownsRow (HF.out.own j hj) HX.out.1, HF.out.apart⟩
      have HWe0 : Hid (W.heap.size < eb) := hid (by have := HF.out.size; have := HX.out.2.1; show _ < _; omega)
      have HEb : Hid (w2.rowIs eb 4 G (ebF L S (q : Nat) G)) := hid HX.out.2.2
      have HWw2 : Hid (Below W.heap.size W w2) := hid (HF.out.below.trans (HX.out.1.mono HF.out.below.size))
      have hlto : ∀ j, j < m → ∀ g, (V j).ownBlock = some g → g < eb := fun j hj g hg => by
        have := ((HF.out.own j hj).lt g hg).2
        have := HX.out.2.1
        omega
      have HLt := hid hlto
      clear hp0 hp1 HX C hlto HF
      go_wp2
      go_loopw [24] (fun i wr => ∃ k : Nat, k ≤ n ∧ i = .int .i64 k ∧ Hid (∃ V, Fam W wr m (fsT L S T n q k) V ∧ wr.rowIs eb 4 G (ebF L S (q : Nat) G) ∧ W.heap.size < eb ∧ ∀ j, j < m → (V j).ownBlock ≠ some eb)) (fun i _ => n - (intOf i).toNat)
      case atStart => exact ⟨0, Nat.zero_le _, rfl, hid ⟨V, HF2.out, HEb.out, HWe0.out, fun j hj e => by have := HLt.out j hj _ e; omega⟩⟩
      case round =>
        obtain ⟨k, hk, rfl, HS⟩ := hrel
        obtain ⟨V', hF, hE, hWe, hne⟩ := HS.out
        by_cases hltk : k < n
        · obtain rfl := ha (by omega)
          obtain ⟨q0, q1, q2⟩ := Sts.at HC.out hF.below hltk
          obtain ⟨W2, hW2, hb2, hs2, p0, p1, p2⟩ := box3 wr (T k)
          obtain ⟨t, ht⟩ : ∃ t : Nat, (T k).1 = t := ⟨((T k).1).toNat, by have := HA.out k hltk; omega⟩
          have htG : t < G := by have := HA.out k hltk; omega
          have htz : (t : Int) < G := by omega
          obtain ⟨x1, hx1⟩ : ∃ x, x = (T k).2.1 := ⟨_, rfl⟩
          obtain ⟨x2, hx2⟩ : ∃ x, x = (T k).2.2 := ⟨_, rfl⟩
          rw [ht] at q0 p0 hW2
          rw [← hx1] at q1 p1 hW2
          rw [← hx2] at q2 p2 hW2
          have hE2 : W2.rowIs eb 4 G (ebF L S (q : Nat) G) := hE.of_block (hb2.block _ hE.lt)
          have he := hE2.cell htG
          unfold ebF at he
          rw [if_pos htG] at he
          have hF2 : Fam W W2 m (fsT L S T n q k) V' := ⟨hF.below.trans (hb2.mono hF.below.size), hF.top.of_block (hb2.block _ hF.top.lt), fun j hj => below_ownsRow (hF.own j hj) hb2, hF.apart⟩
          have HF2 := hid hF2
          have HE2 := hid hE2
          have HNe := hid hne
          have HWe := hid hWe
          have HT1 : Hid ((T k).1.toNat = t ∧ (T k).2.1 = x1) := hid ⟨by rw [ht]; rfl, hx1.symm⟩
          obtain ⟨a2, c2, hv, hrow⟩ := owns_row (hF2.own q hlt)
          have hown := hF2.own q hlt
          have htop := hF2.top.cell hlt
          rw [hv] at hown htop
          have hlen : (fsT L S T n q k q).length ≤ k := by rw [fsT_here, fl_len]; exact tally_le _ _ _
          generalize hn' : (fsT L S T n q k q).length = mm at *
          have HN := hid hn'
          have HVr := hid hv
          have HO := hid hown
          have HS2 := hid hs2
          clear hx1 hx2 ht hE hE2 hF hF2 hne hWe HS hv hown hn' hb2 hs2 hrow
          cases hh : has (L t) (S t) (q : Nat)
          · rw [hh] at he
            have HX : Hid (fsX L S T (q : Nat) k = 1) := hid (fsX_can (by rw [HT1.out.1]; exact hh))
            clear hh
            go_wp2_with (at_builtin; refine wpList_append_own_at _ rfl _ _ 26 rfl (W.heap.size + 1) 3 i0 (.int .i64 0) 1 8 Try.underlying26 HI.out.1 HI.out.2.1 HI.out.2.2.1 HI.out.2.2.2 rfl (by decide) _ _ _ rfl (HO.out.alloc _) ⟨W2.heap.size, 0, none⟩ 1 1 [.int .i64 (k : Nat)] rfl rfl (cell_one_new _ _ _) (ints_oneCell .i64 [(k : Int)]) (by unfold maxLen; omega) (by omega) (by have h1 := HF2.out.size; simp; omega) ?_; intro v' w4 hown' hgrow hnil hloc; have HG : Hid (w4.heap[eb]? = W2.heap[eb]? ∧ v'.ownBlock ≠ some eb) := hid (grow_other HE2.out.lt (HVr.out ▸ HNe.out q hlt) hgrow hloc); obtain ⟨⟨a3, c3, rfl⟩, g1, g2, G3⟩ := Fam.step' HF2.out hlt HN.out HVr.out hown' hgrow hloc; clear hown' hgrow hnil hloc)
            go_roundw
            case rel => exact ⟨k + 1, by omega, by go_num, hid ⟨_, G3.out.congr (fun j _ => by rw [fsT_here]; exact fsT_hit HX.out), (HE2.out.of_block ((Below.heap_setCell _ _ _ _ (by have := HWe.out; show eb ≠ W.heap.size; omega)).trans HG.out.1)), HWe.out, fun j hj e => by
              by_cases e2 : j = q
              · rw [if_pos e2] at e; exact HG.out.2 e
              · rw [if_neg e2] at e; exact HNe.out j hj e⟩⟩
            case measure => simp [intOf]; omega
          · rw [hh] at he
            by_cases e : x1 = (q : Nat)
            · have h1 : (x1 == (q : Int)) = true := beq_iff_eq.2 e
              have HX : Hid (fsX L S T (q : Nat) k = 1) := hid (fsX_own (by rw [HT1.out.2]; exact e))
              clear hh e
              go_wp2_with (at_builtin; refine wpList_append_own_at _ rfl _ _ 26 rfl (W.heap.size + 1) 3 i0 (.int .i64 0) 1 8 Try.underlying26 HI.out.1 HI.out.2.1 HI.out.2.2.1 HI.out.2.2.2 rfl (by decide) _ _ _ rfl (HO.out.alloc _) ⟨W2.heap.size, 0, none⟩ 1 1 [.int .i64 (k : Nat)] rfl rfl (cell_one_new _ _ _) (ints_oneCell .i64 [(k : Int)]) (by unfold maxLen; omega) (by omega) (by have h1 := HF2.out.size; simp; omega) ?_; intro v' w4 hown' hgrow hnil hloc; have HG : Hid (w4.heap[eb]? = W2.heap[eb]? ∧ v'.ownBlock ≠ some eb) := hid (grow_other HE2.out.lt (HVr.out ▸ HNe.out q hlt) hgrow hloc); obtain ⟨⟨a3, c3, rfl⟩, g1, g2, G3⟩ := Fam.step' HF2.out hlt HN.out HVr.out hown' hgrow hloc; clear hown' hgrow hnil hloc)
              go_roundw
              case rel => exact ⟨k + 1, by omega, by go_num, hid ⟨_, G3.out.congr (fun j _ => by rw [fsT_here]; exact fsT_hit HX.out), (HE2.out.of_block ((Below.heap_setCell _ _ _ _ (by have := HWe.out; show eb ≠ W.heap.size; omega)).trans HG.out.1)), HWe.out, fun j hj e => by
                by_cases e2 : j = q
                · rw [if_pos e2] at e; exact HG.out.2 e
                · rw [if_neg e2] at e; exact HNe.out j hj e⟩⟩
              case measure => simp [intOf]; omega
            · have h1 : (x1 == (q : Int)) = false := beq_eq_false_iff_ne.2 e
              have HX : Hid (fsX L S T (q : Nat) k ≠ 1) := hid (fsX_out (by rw [HT1.out.1]; exact hh) (by rw [HT1.out.2]; exact e))
              clear hh e
              go_wp2
              go_roundw
              case rel => exact ⟨k + 1, by omega, by go_num, hid ⟨V', HF2.out.congr (fun j _ => fsT_miss HX.out), HE2.out, HWe.out, HNe.out⟩⟩
              case measure => simp [intOf]; omega
        · obtain rfl : n = k := by omega
          go_wp2
          go_roundw
          case rel => exact ⟨q + 1, by omega, by go_num, hid ⟨V', hF.congr (fun j _ => fsT_next)⟩⟩
          case measure => simp [intOf]; omega
    · obtain rfl : m = q := by omega
      go_wp2
      go_ret
      refine ⟨W.heap.size, rfl, hid ⟨HW.out.trans (hF.below.mono HW.out.size), ?_⟩⟩
      exact ((hF.congr (fun j hj => fsT_end hj)).ly).mono HW.out.size

end Go.Proofs.Ythpbgfodejoecaa
