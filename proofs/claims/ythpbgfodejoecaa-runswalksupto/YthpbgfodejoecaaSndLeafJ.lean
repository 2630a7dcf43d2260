/- isEmpty, Zero, leastStep, IndexFunc and Index, by their contracts. graph: of each marking those to which its edges lead. Check. -/
import Derived.Test.YthpbgfodejoecaaProc5
namespace Go.Proofs.Ythpbgfodejoecaa
open Go.RowKit

/-- Is it all nothing? -/
def zB (n : Nat) (Y : Nat → Int) : Bool := decide (∀ i, i < n → Y i = 0)
theorem zB_iff {n : Nat} {Y : Nat → Int} : zB n Y = true ↔ ∀ i, i < n → Y i = 0 := by unfold zB; rw [decide_eq_true_eq]
end Go.Proofs.Ythpbgfodejoecaa

namespace Go.Proofs.Ythpbgfodejoecaa
open Go.RowKit

def snL (nx : List (List (Int × Int))) (r : Nat) : Nat := (nx.getD r []).length
def snS (nx : List (List (Int × Int))) (r i : Nat) : Int := ((nx.getD r []).getD i (0, 0)).1
def snZ (nx : List (List (Int × Int))) (r i : Nat) : Int := ((nx.getD r []).getD i (0, 0)).2

/-- Edges of G markings lie at xa: of the r-th one L r, their steps S, where they lead Z. -/
def Egs (w : World) (xa : Option Addr) (G : Nat) (L : Nat → Nat) (S Z : Nat → Nat → Int) : Prop :=
  ∃ b o, (0 < G → xa = some ⟨b, o, none⟩) ∧ ∀ r, r < G → ∃ a c, w.cell? ⟨b, o + r, none⟩ = some (.slice a (L r) c) ∧ Fls w a (L r) (S r) (Z r)

theorem Egs.below {w w' : World} {xa : Option Addr} {G : Nat} {L : Nat → Nat} {S Z : Nat → Nat → Int} (h : Egs w xa G L S Z) (hb : Below w.heap.size w w') : Egs w' xa G L S Z := by
  obtain ⟨b, o, ha, hc⟩ := h
  refine ⟨b, o, ha, fun r hr => ?_⟩
  obtain ⟨a, c, h1, h2⟩ := hc r hr
  exact ⟨a, c, by rw [hb.cell (p := ⟨b, o + r, none⟩) (World.block_lt_of_cell? _ _ h1)]; exact h1, h2.below hb⟩

end Go.Proofs.Ythpbgfodejoecaa

namespace Go.Proofs.Ythpbgfodejoecaa
open Go.RowKit

/-- A process in memory. -/
structure Prc (w : World) (na : Option Addr) (N nc : Nat) (fa : Option Addr) (F : Nat) (M : Nat → ByteArray) (K A B : Nat → Int) : Prop where
  nds : Nds w na N M K
  fls : Fls w fa F A B
  cap : N ≤ nc
  nN : N ≤ 140737488355328
  nF : F ≤ 140737488355328

theorem Prc.below {w w' : World} {na : Option Addr} {N nc : Nat} {fa : Option Addr} {F : Nat} {M : Nat → ByteArray} {K A B : Nat → Int} (h : Prc w na N nc fa F M K A B) (hb : Below w.heap.size w w') : Prc w' na N nc fa F M K A B :=
  ⟨h.nds.below hb, h.fls.below hb, h.cap, h.nN, h.nF⟩

/-- Is e what the document asks of Check? -/
def ChkIs (N F : Nat) (M : Nat → ByteArray) (K A B : Nat → Int) (e : Int) : Prop :=
  (20 < N ∨ 30 < F) ∧ e = 2 ∨
  (N ≤ 20 ∧ F ≤ 30) ∧ (nodesErr M K N ≠ 0 ∧ e = nodesErr M K N ∨
    nodesErr M K N = 0 ∧ (¬ (endsOk N F A B = true ∧ tally K 1 N = 1 ∧ fitAll N F K A B = true) ∧ e = 1 ∨
      (endsOk N F A B = true ∧ tally K 1 N = 1 ∧ fitAll N F K A B = true) ∧ (¬ allCome N F K A B ∧ e = 6 ∨ allCome N F K A B ∧ e = 0)))

theorem chk_zero {N F : Nat} {M : Nat → ByteArray} {K A B : Nat → Int} (h : ChkIs N F M K A B 0) : (N ≤ 20 ∧ F ≤ 30) ∧ nodesErr M K N = 0 ∧ endsOk N F A B = true ∧ tally K 1 N = 1 ∧ fitAll N F K A B = true ∧ allCome N F K A B := by
  rcases h with ⟨_, h⟩ | ⟨h1, ⟨h2, h3⟩ | ⟨h2, ⟨_, h3⟩ | ⟨h3, ⟨_, h4⟩ | ⟨h4, _⟩⟩⟩⟩
  · cases h
  · exact absurd h3.symm h2
  · cases h3
  · cases h4
  · exact ⟨h1, h2, h3.1, h3.2.1, h3.2.2, h4⟩

theorem box_keep {w w1 : World} {c : Array Value} {t : TypeId} (hb : Below (w.heap.size + 1) (w.alloc (.cells c t)) w1) {i : Nat} {v : Value} (h : c[i]? = some v) : w1.cell? ⟨w.heap.size, i, none⟩ = some v := by
  rw [hb.cell (p := ⟨w.heap.size, i, none⟩) (by show w.heap.size < w.heap.size + 1; omega)]
  exact cell_of_alloc h

set_option maxHeartbeats 1000000 in
theorem procCheck_any (na fa : Option Addr) (N nc F fc : Nat) (M : Nat → ByteArray) (K A B : Nat → Int) (e0 : Int) (w : World) (hp : Prc w na N nc fa F M K A B) (he : ChkIs N F M K A B e0) :
    Calls Try.prog 49 #[.agg #[.slice na N nc, .slice fa F fc]] w fun e w' => e = .returned (.int .i64 e0) ∧ Below w.heap.size w w' := by
  have HP : Hid (Prc w na N nc fa F M K A B) := hp
  have hN := hp.nN
  have hF := hp.nF
  clear hp
  obtain ⟨W, eW⟩ : ∃ x, x = w.alloc (.cells #[.slice na N nc, .slice fa F fc] 25) := ⟨_, rfl⟩
  have HW : Hid (Below w.heap.size w W ∧ W.heap.size = w.heap.size + 1) := by subst eW; exact ⟨box_below _ _, by simp⟩
  have HBx : Hid (∀ w1, Below W.heap.size W w1 → w1.cell? ⟨w.heap.size, 0, none⟩ = some (.slice na N nc) ∧ w1.cell? ⟨w.heap.size, 1, none⟩ = some (.slice fa F fc)) := fun w1 h => by
    have h' : Below (w.heap.size + 1) (w.alloc (.cells #[.slice na N nc, .slice fa F fc] 25)) w1 := by rw [← HW.out.2, ← eW]; exact h
    exact ⟨box_keep h' rfl, box_keep h' rfl⟩
  have HEW : Hid (w.alloc (.cells #[.slice na N nc, .slice fa F fc] 25) = W) := eW.symm
  clear eW
  rcases he with ⟨h1, rfl⟩ | ⟨⟨h1, h1'⟩, he⟩
  · by_cases h2 : 20 < N
    · go_enter Try.func49, Try.ntmps49
      go_wp2
      go_ret
      exact ⟨rfl, box_below _ _⟩
    · have h3 : 30 < F := by omega
      clear h1
      go_enter Try.func49, Try.ntmps49
      go_wp2
      go_ret
      exact ⟨rfl, box_below _ _⟩
  · have C1 : Hid (Calls Try.prog 77 #[.slice na N nc] W fun e w' => e = .returned (.int .i64 (nodesErr M K N)) ∧ Below W.heap.size W w') := checkNodes_any na N nc M K W hN HP.out.cap (HP.out.nds.below HW.out.1)
    rcases he with ⟨h2, rfl⟩ | ⟨h2, he⟩
    · have hz : (nodesErr M K N != 0) = true := by rw [bne_iff_ne]; exact h2
      clear h2
      generalize nodesErr M K N = E at *
      go_enter Try.func49, Try.ntmps49
      go_wp2_with fail
      rw [HEW.out]
      refine C1.out.mono ?_
      rintro e w1 ⟨rfl, hb1⟩
      have HB1 : Hid (Below w.heap.size w w1) := HW.out.1.trans (hb1.mono HW.out.1.size)
      clear hb1
      go_wp2
      go_ret
      exact ⟨rfl, HB1.out⟩
    · rw [h2] at C1
      have HE : Hid (¬ (endsOk N F A B = true ∧ tally K 1 N = 1 ∧ fitAll N F K A B = true) ∧ e0 = 1 ∨
      (endsOk N F A B = true ∧ tally K 1 N = 1 ∧ fitAll N F K A B = true) ∧ (¬ allCome N F K A B ∧ e0 = 6 ∨ allCome N F K A B ∧ e0 = 0)) := he
      clear he h2
      go_enter Try.func49, Try.ntmps49
      go_wp2_with fail
      rw [HEW.out]
      refine C1.out.mono ?_
      rintro e w1 ⟨rfl, hb1⟩
      have HB1 : Hid (Below W.heap.size W w1) := hb1
      obtain ⟨hc0, hc1⟩ := HBx.out w1 hb1
      have C2 : Hid (Calls Try.prog 78 #[.agg #[.slice na N nc, .slice fa F fc]] w1 fun e w' => e = .returned (.bool (endsOk N F A B)) ∧ Below w1.heap.size w1 w') := flowsHaveEnds_any na fa N nc F fc A B w1 hF ((HP.out.fls.below HW.out.1).below hb1)
      clear hb1 C1
      cases hb : endsOk N F A B
      · have E0 : Hid (e0 = 1) := by
          rcases HE.out with ⟨_, h⟩ | ⟨h, _⟩
          · exact h
          · rw [hb] at h; exact absurd h.1 (by decide)
        rw [hb] at C2
        clear hb HE
        go_wp2_with fail
        refine C2.out.mono ?_
        rintro e w2 ⟨rfl, hb2⟩
        have HB2 : Hid (Below w.heap.size w w2) := HW.out.1.trans ((HB1.out.trans (hb2.mono HB1.out.size)).mono HW.out.1.size)
        clear hb2 C2
        go_wp2
        go_ret
        exact ⟨ret_int E0.out.symm, HB2.out⟩
      · have HEn : Hid (endsOk N F A B = true) := hb
        rw [hb] at C2
        clear hb
        go_wp2_with fail
        refine C2.out.mono ?_
        rintro e w2 ⟨rfl, hb2⟩
        have HB2 : Hid (Below W.heap.size W w2) := HB1.out.trans (hb2.mono HB1.out.size)
        clear hc0 hc1
        obtain ⟨hc0, hc1⟩ := HBx.out w2 HB2.out
        have C3 : Hid (Calls Try.prog 79 #[.slice na N nc] w2 fun e w' => e = .returned (.bool (decide (tally K 1 N = 1))) ∧ Below w2.heap.size w2 w') := hasOneStart_any na N nc M K w2 hN ((HP.out.nds.below HW.out.1).below HB2.out)
        clear hb2 C2 HB1
        by_cases hb : tally K 1 N = 1
        · have HTn : Hid (tally K 1 N = 1) := hb
          rw [decide_eq_true hb] at C3
          clear hb
          go_wp2_with fail
          refine C3.out.mono ?_
          rintro e w3 ⟨rfl, hb3⟩
          have HB3 : Hid (Below W.heap.size W w3) := HB2.out.trans (hb3.mono HB2.out.size)
          clear hc0 hc1
          obtain ⟨hc0, hc1⟩ := HBx.out w3 HB3.out
          have C4 : Hid (Calls Try.prog 80 #[.agg #[.slice na N nc, .slice fa F fc]] w3 fun e w' => e = .returned (.bool (fitAll N F K A B)) ∧ Below w3.heap.size w3 w') := flowsFit_any na fa N nc F fc M K A B w3 h1 h1' ((HP.out.nds.below HW.out.1).below HB3.out) ((HP.out.fls.below HW.out.1).below HB3.out) HEn.out
          clear hb3 C3 HB2
          cases hb : fitAll N F K A B
          · have E0 : Hid (e0 = 1) := by
              rcases HE.out with ⟨_, h⟩ | ⟨h, _⟩
              · exact h
              · rw [hb] at h; exact absurd h.2.2 (by decide)
            rw [hb] at C4
            clear hb HE
            go_wp2_with fail
            refine C4.out.mono ?_
            rintro e w4 ⟨rfl, hb4⟩
            have HB4 : Hid (Below w.heap.size w w4) := HW.out.1.trans ((HB3.out.trans (hb4.mono HB3.out.size)).mono HW.out.1.size)
            clear hb4 C4
            go_wp2
            go_ret
            exact ⟨ret_int E0.out.symm, HB4.out⟩
          · have HEn2 : Hid (fitAll N F K A B = true) := hb
            rw [hb] at C4
            clear hb
            go_wp2_with fail
            refine C4.out.mono ?_
            rintro e w4 ⟨rfl, hb4⟩
            have HB4 : Hid (Below W.heap.size W w4) := HB3.out.trans (hb4.mono HB3.out.size)
            clear hc0 hc1
            obtain ⟨hc0, hc1⟩ := HBx.out w4 HB4.out
            have C5 : Hid (Calls Try.prog 81 #[.agg #[.slice na N nc, .slice fa F fc]] w4 fun e w' => (∃ x : Bool, e = .returned (.bool x) ∧ (x = true ↔ allCome N F K A B)) ∧ Below w4.heap.size w4 w') := allReached_any na fa N nc F fc M K A B w4 h1 h1' ((HP.out.nds.below HW.out.1).below HB4.out) ((HP.out.fls.below HW.out.1).below HB4.out) HEn.out HTn.out
            clear hb4 C4 HB3
            go_wp2_with fail
            refine C5.out.mono ?_
            rintro e w5 ⟨⟨x, rfl, hx⟩, hb5⟩
            have HB5 : Hid (Below w.heap.size w w5) := HW.out.1.trans ((HB4.out.trans (hb5.mono HB4.out.size)).mono HW.out.1.size)
            have E0 : Hid (x = true ∧ e0 = 0 ∨ x = false ∧ e0 = 6) := by
              rcases HE.out with ⟨h, _⟩ | ⟨_, ⟨h, h'⟩ | ⟨h, h'⟩⟩
              · exact absurd ⟨HEn.out, HTn.out, HEn2.out⟩ h
              · right
                refine ⟨?_, h'⟩
                cases x
                · rfl
                · exact absurd (hx.1 rfl) h
              · exact Or.inl ⟨hx.2 h, h'⟩
            clear hb5 C5 hx HE
            rcases E0.out with ⟨rfl, e1⟩ | ⟨rfl, e1⟩
            · have E1 : Hid (e0 = 0) := e1
              clear e1 E0
              go_wp2
              go_ret
              exact ⟨ret_int E1.out.symm, HB5.out⟩
            · have E1 : Hid (e0 = 6) := e1
              clear e1 E0
              go_wp2
              go_ret
              exact ⟨ret_int E1.out.symm, HB5.out⟩
        · have E0 : Hid (e0 = 1) := by
            rcases HE.out with ⟨_, h⟩ | ⟨h, _⟩
            · exact h
            · exact absurd h.2.1 hb
          rw [decide_eq_false hb] at C3
          clear hb HE
          go_wp2_with fail
          refine C3.out.mono ?_
          rintro e w3 ⟨rfl, hb3⟩
          have HB3 : Hid (Below w.heap.size w w3) := HW.out.1.trans ((HB2.out.trans (hb3.mono HB2.out.size)).mono HW.out.1.size)
          clear hb3 C3
          go_wp2
          go_ret
          exact ⟨ret_int E0.out.symm, HB3.out⟩

end Go.Proofs.Ythpbgfodejoecaa
