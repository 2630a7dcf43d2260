/- The document's Gets: its closure that calls itself. -/
import Derived.Laws.EntriesVeiled
import Derived.Test.YthpbgfodejoecaaGameEnJ
import Derived.Test.YthpbgfodejoecaaRefJ
namespace Go.Proofs.Ythpbgfodejoecaa
open Go.RowKit

/-- From flow x one may go on to flow y, not through n. -/
def Eg (A B : Nat → Int) (F : Nat) (n : Int) (x y : Nat) : Prop := x < F ∧ y < F ∧ B x ≠ n ∧ A y = B x

def Rch (A B : Nat → Int) (F : Nat) (n : Int) (a b : Nat) : Prop := ∃ k, Wk (fun x => x = a) (Eg A B F n) k b

theorem rch_refl {A B : Nat → Int} {F : Nat} {n : Int} (a : Nat) : Rch A B F n a a := ⟨0, rfl⟩

theorem wk_pre {E : Nat → Nat → Prop} {a b : Nat} (h : E a b) : ∀ {k x}, Wk (fun y => y = b) E k x → Wk (fun y => y = a) E (k + 1) x
  | 0, x, hx => by
    have : x = b := hx
    subst this
    exact ⟨a, rfl, h⟩
  | k + 1, x, ⟨y, h1, h2⟩ => ⟨y, wk_pre h h1, h2⟩

theorem rch_pre {A B : Nat → Int} {F : Nat} {n : Int} {a b x : Nat} (h : Eg A B F n a b) (hr : Rch A B F n b x) : Rch A B F n a x := by
  obtain ⟨k, hk⟩ := hr
  exact ⟨k + 1, wk_pre h hk⟩

/-- What a call at a leaves of what was seen. -/
structure Vsd (A B : Nat → Int) (F : Nat) (n : Int) (a : Nat) (H H' : Nat → Bool) : Prop where
  mono : ∀ x, H x = true → H' x = true
  here : H' a = true
  new : ∀ x, x < F → H' x = true → H x = false → Rch A B F n a x ∧ ∀ y, Eg A B F n x y → H' y = true

structure Vlp (A B : Nat → Int) (F : Nat) (n : Int) (a k : Nat) (H H' : Nat → Bool) : Prop where
  mono : ∀ x, H x = true → H' x = true
  here : H' a = true
  new : ∀ x, x < F → H' x = true → H x = false → x ≠ a → Rch A B F n a x ∧ ∀ y, Eg A B F n x y → H' y = true
  done : ∀ y, y < k → Eg A B F n a y → H' y = true

theorem vlp_start {A B : Nat → Int} {F : Nat} {n : Int} {a : Nat} {H : Nat → Bool} : Vlp A B F n a 0 H (updB H a) := by
  refine ⟨fun x hx => ?_, ?_, fun x _ h1 h2 h3 => ?_, fun y hy => by omega⟩
  · unfold updB; split
    · rfl
    · exact hx
  · unfold updB; rw [if_pos rfl]
  · unfold updB at h1
    rw [if_neg h3, h2] at h1
    cases h1

theorem Vlp.skip {A B : Nat → Int} {F : Nat} {n : Int} {a k : Nat} {H H' : Nat → Bool} (h : Vlp A B F n a k H H') (hk : Eg A B F n a k → H' k = true) : Vlp A B F n a (k + 1) H H' := by
  refine ⟨h.mono, h.here, h.new, fun y hy he => ?_⟩
  by_cases e : y = k
  · subst e; exact hk he
  · exact h.done y (by omega) he

theorem Vlp.call {A B : Nat → Int} {F : Nat} {n : Int} {a k : Nat} {H H' H2 : Nat → Bool} (h : Vlp A B F n a k H H') (he : Eg A B F n a k) (h2 : Vsd A B F n k H' H2) : Vlp A B F n a (k + 1) H H2 := by
  refine ⟨fun x hx => h2.mono x (h.mono x hx), h2.mono a h.here, fun x hx h3 h4 h5 => ?_, fun y hy hey => ?_⟩
  · cases h6 : H' x
    · obtain ⟨h7, h8⟩ := h2.new x hx h3 h6
      exact ⟨rch_pre he h7, h8⟩
    · obtain ⟨h7, h8⟩ := h.new x hx h6 h4 h5
      exact ⟨h7, fun y hy => h2.mono y (h8 y hy)⟩
  · by_cases e : y = k
    · subst e; exact h2.here
    · exact h2.mono y (h.done y (by omega) hey)

theorem Vlp.fin {A B : Nat → Int} {F : Nat} {n : Int} {a k : Nat} {H H' : Nat → Bool} (h : Vlp A B F n a k H H') (hk : ∀ y, k ≤ y → ¬ Eg A B F n a y) : Vsd A B F n a H H' := by
  refine ⟨h.mono, h.here, fun x hx h1 h2 => ?_⟩
  by_cases e : x = a
  · subst e
    refine ⟨rch_refl _, fun y hy => ?_⟩
    by_cases c : y < k
    · exact h.done y c hy
    · exact absurd hy (hk y (by omega))
  · exact h.new x hx h1 h2 e

theorem Vsd.all {A B : Nat → Int} {F : Nat} {n : Int} {a : Nat} {H' : Nat → Bool} (h : Vsd A B F n a (fun _ => false) H') (ha : a < F) {b : Nat} (hb : b < F) : H' b = true ↔ Rch A B F n a b := by
  constructor
  · intro h1
    exact (h.new b hb h1 rfl).1
  · rintro ⟨k, hk⟩
    have key : ∀ k x, Wk (fun y => y = a) (Eg A B F n) k x → x < F ∧ H' x = true := by
      intro k
      induction k with
      | zero =>
        intro x hx
        have : x = a := hx
        subst this
        exact ⟨ha, h.here⟩
      | succ k ih =>
        rintro x ⟨y, h1, h2⟩
        obtain ⟨h3, h4⟩ := ih y h1
        exact ⟨h2.2.1, (h.new y h3 h4 rfl).2 x h2⟩
    exact (key k b hk).2

theorem cntB_mono {H H' : Nat → Bool} (h : ∀ x, H x = true → H' x = true) : ∀ n, cntB H n ≤ cntB H' n
  | 0 => Nat.le_refl _
  | n + 1 => by
    have ih := cntB_mono h n
    simp only [cntB]
    by_cases e : H n = true
    · rw [if_pos e, if_pos (h n e)]; omega
    · rw [if_neg e]; split <;> omega

/-- What the closure sees. -/
structure Gs (w : World) (hv pb bb gv hb : Nat) (fa : Option Addr) (F fc : Nat) (A B : Nat → Int) (n : Int) : Prop where
  here : w.cell? ⟨hv, 0, none⟩ = some (.slice (some ⟨hb, 0, none⟩) F F)
  flows : w.cell? ⟨pb, 1, none⟩ = some (.slice fa F fc)
  but : w.cell? ⟨bb, 0, none⟩ = some (.int .i64 n)
  go1 : w.cell? ⟨gv, 0, none⟩ = some (.func (.func 114) #[] #[.pointer (some ⟨hv, 0, none⟩), .pointer (some ⟨pb, 0, none⟩), .pointer (some ⟨bb, 0, none⟩), .pointer (some ⟨gv, 0, none⟩)])
  fls : Fls w fa F A B

theorem not_bool {w : World} {hb F b o : Nat} {H : Nat → Bool} {v : Value} (h : w.rowIs hb 4 F (fun i => .bool (H i))) (hc : w.cell? ⟨b, o, none⟩ = some v) (hv : ∀ x, v ≠ .bool x) : b ≠ hb := by
  intro e
  subst e
  obtain ⟨c, h1, h2, h3⟩ := h
  simp only [World.cell?, h1] at hc
  by_cases ho : o < F
  · rw [h3 o ho] at hc
    cases hc
    exact hv _ rfl
  · rw [Array.getElem?_eq_none (by omega)] at hc
    cases hc

theorem Gs.grown {w w' : World} {hv pb bb gv hb : Nat} {fa : Option Addr} {F fc : Nat} {A B : Nat → Int} {n : Int} {H : Nat → Bool} (h : Gs w hv pb bb gv hb fa F fc A B n) (hr : w.rowIs hb 4 F (fun i => .bool (H i))) (hg : w.grownBy w' (some hb)) : Gs w' hv pb bb gv hb fa F fc A B n := by
  have keep : ∀ {b o v}, w.cell? ⟨b, o, none⟩ = some v → (∀ x, v ≠ .bool x) → w'.cell? ⟨b, o, none⟩ = some v := fun {b o v} hc hv =>
    hg.cell (a := ⟨b, o, none⟩) hc (fun e => not_bool hr hc hv (by cases e; rfl))
  refine ⟨keep h.here (fun x e => by cases e), keep h.flows (fun x e => by cases e), keep h.but (fun x e => by cases e), keep h.go1 (fun x e => by cases e), ?_⟩
  obtain ⟨b, o, h1, h2⟩ := h.fls
  exact ⟨b, o, h1, fun i hi => ⟨keep (h2 i hi).1 (fun x e => by cases e), keep (h2 i hi).2 (fun x e => by cases e)⟩⟩

theorem row_updB {w : World} {hb F a : Nat} {H : Nat → Bool} (h : w.rowIs hb 4 F (fun i => .bool (H i))) : (w.setCell ⟨hb, a, none⟩ (.bool true)).rowIs hb 4 F (fun i => .bool (updB H a i)) :=
  (h.set a _).congr (fun i _ => by unfold updB; split <;> rfl)

set_option maxHeartbeats 4000000 in
theorem gets1_any {hv pb bb gv hb : Nat} {fa : Option Addr} {F fc : Nat} {A B : Nat → Int} {n : Int} (hF : F ≤ 30) : ∀ (f : Nat) (a : Nat) (H : Nat → Bool) (w : World), a < F → H a = false → F - cntB H F ≤ f → Gs w hv pb bb gv hb fa F fc A B n → w.rowIs hb 4 F (fun i => .bool (H i)) →
    Calls Try.prog 114 #[.int .i64 (a : Nat), .pointer (some ⟨hv, 0, none⟩), .pointer (some ⟨pb, 0, none⟩), .pointer (some ⟨bb, 0, none⟩), .pointer (some ⟨gv, 0, none⟩)] w fun e w' => e = .returned (.tuple #[]) ∧ w.grownBy w' (some hb) ∧ Hid (∃ H', Vsd A B F n a H H' ∧ w'.rowIs hb 4 F (fun i => .bool (H' i))) := by
  intro f
  induction f with
  | zero =>
    intro a H w ha h0 hf
    have h1 := cntB_upd h0 F ha
    have h2 := cntB_le (updB H a) F
    omega
  | succ f ih =>
    intro a H w ha h0 hf hgs hrow
    have IH : Hid (∀ (a : Nat) (H : Nat → Bool) (w : World), a < F → H a = false → F - cntB H F ≤ f → Gs w hv pb bb gv hb fa F fc A B n → w.rowIs hb 4 F (fun i => .bool (H i)) →
      Calls Try.prog 114 #[.int .i64 (a : Nat), .pointer (some ⟨hv, 0, none⟩), .pointer (some ⟨pb, 0, none⟩), .pointer (some ⟨bb, 0, none⟩), .pointer (some ⟨gv, 0, none⟩)] w fun e w' => e = .returned (.tuple #[]) ∧ w.grownBy w' (some hb) ∧ Hid (∃ H', Vsd A B F n a H H' ∧ w'.rowIs hb 4 F (fun i => .bool (H' i)))) := ih
    have HC1 : Hid (cntB (updB H a) F = cntB H F + 1) := cntB_upd h0 F ha
    have HF : Hid (F - cntB H F ≤ f + 1) := hf
    have HG : Hid (Gs w hv pb bb gv hb fa F fc A B n) := hgs
    have HR : Hid (w.rowIs hb 4 F (fun i => .bool (H i))) := hrow
    have c1 := hgs.here
    have c2 : w.cell? ⟨hb, a, none⟩ = some (.bool (H a)) := hrow.cell ha
    have c3 := hrow.frozen a
    have hai : (a : Int) < F := by omega
    have HS : Hid (w.grownBy (w.setCell ⟨hb, a, none⟩ (.bool true)) (some hb) ∧ Vlp A B F n a 0 H (updB H a) ∧ (w.setCell ⟨hb, a, none⟩ (.bool true)).rowIs hb 4 F (fun i => .bool (updB H a i))) := ⟨grown_set (grown_refl _ _) _ _, vlp_start, row_updB hrow⟩
    clear hgs hrow hf ih
    go_enter Try.func114, Try.ntmps114
    go_wp2
    go_loopw [6] (fun i wr => ∃ k : Nat, k ≤ F ∧ i = .int .i64 k ∧ Hid (∃ H', w.grownBy wr (some hb) ∧ Vlp A B F n a k H H' ∧ wr.rowIs hb 4 F (fun i => .bool (H' i)))) (fun i _ => F - (intOf i).toNat)
    case atStart => exact ⟨0, Nat.zero_le _, rfl, hid ⟨_, HS.out⟩⟩
    case round =>
      obtain ⟨k, hk, rfl, hT⟩ := hrel
      obtain ⟨H', hT1⟩ := hT.out
      have HT : Hid (w.grownBy wr (some hb) ∧ Vlp A B F n a k H H' ∧ wr.rowIs hb 4 F (fun i => .bool (H' i))) := hT1
      clear hT hT1 HS c1 c2 c3
      have hgr := HG.out.grown HR.out HT.out.1
      have HGr : Hid (Gs wr hv pb bb gv hb fa F fc A B n) := hgr
      obtain ⟨b, o, hfa, hfc⟩ := hgr.fls
      obtain rfl := hfa (by omega)
      have hda := (hfc a ha).2
      have c1 := hgr.here
      have c2 := hgr.flows
      have c3 := hgr.but
      have c4 := hgr.go1
      clear hfa
      by_cases hlt : k < F
      · have hki : (k : Int) < F := by omega
        have hdk := (hfc k hlt).1
        by_cases hB : B a = n
        · have hB' : (B a != n) = false := by rw [hB]; simp
          have HFin : Hid (Vsd A B F n a H H') := HT.out.2.1.fin (fun y _ he => he.2.2.1 hB)
          clear hB hfc hgr
          go_wp2
          go_quiet (fail)
          go_wp2
          go_end0
          exact ⟨rfl, ⟨HT.out.1.os, HT.out.1.tape, HT.out.1.output, HT.out.1.size, HT.out.1.block⟩, hid ⟨H', HFin.out, HT.out.2.2⟩⟩
        · have hB' : (B a != n) = true := by rw [bne_iff_ne]; exact hB
          have HBn : Hid (B a ≠ n) := hB
          clear hB hgr
          by_cases hA : A k = B a
          · have hA' : (A k == B a) = true := beq_iff_eq.2 hA
            have HEg : Hid (Eg A B F n a k) := ⟨ha, hlt, HBn.out, hA⟩
            have c5 : wr.cell? ⟨hb, k, none⟩ = some (.bool (H' k)) := HT.out.2.2.cell hlt
            clear hA hfc
            cases hH : H' k
            · have HHk : Hid (H' k = false) := hH
              rw [hH] at c5
              have HCnt : Hid (F - cntB H' F ≤ f) := by
                have h1 : cntB (updB H a) F ≤ cntB H' F := cntB_mono (fun x hx => by
                  unfold updB at hx
                  split at hx
                  · rename_i e; rw [e]; exact HT.out.2.1.here
                  · exact HT.out.2.1.mono x hx) F
                have := HC1.out
                have := HF.out
                show F - cntB H' F ≤ f
                omega
              clear hH
              go_wp2
              go_quiet (fail)
              revert nq
              intro nq1
              go_wp2
              go_quiet (fail)
              have C : Hid (Calls Try.prog 114 #[.int .i64 (k : Nat), .pointer (some ⟨hv, 0, none⟩), .pointer (some ⟨pb, 0, none⟩), .pointer (some ⟨bb, 0, none⟩), .pointer (some ⟨gv, 0, none⟩)] (wr.drewN (nq1 + nq)) fun e w' => e = .returned (.tuple #[]) ∧ (wr.drewN (nq1 + nq)).grownBy w' (some hb) ∧ Hid (∃ H2, Vsd A B F n k H' H2 ∧ w'.rowIs hb 4 F (fun i => .bool (H2 i)))) :=
                IH.out k H' _ hlt HHk.out HCnt.out ⟨HGr.out.here, HGr.out.flows, HGr.out.but, HGr.out.go1, HGr.out.fls⟩ HT.out.2.2
              go_wp2_with fail
              refine C.out.mono ?_
              rintro e w2 ⟨rfl, hg2, hX2⟩
              have HX2 : Hid (w.grownBy w2 (some hb) ∧ ∃ H2, Vlp A B F n a (k + 1) H H2 ∧ w2.rowIs hb 4 F (fun i => .bool (H2 i))) := by
                obtain ⟨H2, h1, h2⟩ := hX2.out
                exact ⟨HT.out.1.trans ⟨hg2.os, hg2.tape, hg2.output, hg2.size, hg2.block⟩, H2, HT.out.2.1.call HEg.out h1, h2⟩
              clear hg2 hX2 C c1 c2 c3 c4 c5
              go_wp2
              go_roundw
              case rel =>
                obtain ⟨H2, h1, h2⟩ := HX2.out.2
                exact ⟨k + 1, by omega, by go_num, hid ⟨H2, HX2.out.1, h1, h2⟩⟩
              case measure => simp [intOf]; omega
            · have HHk : Hid (H' k = true) := hH
              rw [hH] at c5
              clear hH
              go_wp2
              go_quiet (fail)
              revert nq
              intro nq1
              go_wp2
              go_quiet (fail)
              go_wp2
              go_roundw
              case rel => exact ⟨k + 1, by omega, by go_num, hid ⟨H', ⟨HT.out.1.os, HT.out.1.tape, HT.out.1.output, HT.out.1.size, HT.out.1.block⟩, HT.out.2.1.skip (fun _ => HHk.out), HT.out.2.2⟩⟩
              case measure => simp [intOf]; omega
          · have hA' : (A k == B a) = false := beq_eq_false_iff_ne.2 hA
            have HA : Hid (A k ≠ B a) := hA
            clear hA hfc
            go_wp2
            go_quiet (fail)
            revert nq
            intro nq1
            go_wp2
            go_quiet (fail)
            go_wp2
            go_roundw
            case rel => exact ⟨k + 1, by omega, by go_num, hid ⟨H', ⟨HT.out.1.os, HT.out.1.tape, HT.out.1.output, HT.out.1.size, HT.out.1.block⟩, HT.out.2.1.skip (fun he => absurd he.2.2.2 HA.out), HT.out.2.2⟩⟩
            case measure => simp [intOf]; omega
      · obtain rfl : F = k := by omega
        have hdec : decide ((F : Int) < (F : Int)) = false := by simp
        have HFin : Hid (Vsd A B F n a H H') := HT.out.2.1.fin (fun y hy he => by have := he.2.1; omega)
        clear hfc hgr
        go_wp2
        go_quiet (fail)
        go_wp2
        go_end0
        exact ⟨rfl, ⟨HT.out.1.os, HT.out.1.tape, HT.out.1.output, HT.out.1.size, HT.out.1.block⟩, hid ⟨H', HFin.out, HT.out.2.2⟩⟩

theorem rch_cm {A B : Nat → Int} {F : Nat} {m : Nat → Int} {n : Int} {j : Nat} : Cm A B F m n j ↔ ∃ a, a < F ∧ 0 < m a ∧ Rch A B F n a j := by
  constructor
  · rintro ⟨k, hk⟩
    have key : ∀ k x, Wk (fun x => x < F ∧ 0 < m x) (fun a b => a < F ∧ b < F ∧ B a ≠ n ∧ A b = B a) k x → ∃ a, a < F ∧ 0 < m a ∧ Wk (fun y => y = a) (Eg A B F n) k x := by
      intro k
      induction k with
      | zero => exact fun x hx => ⟨x, hx.1, hx.2, rfl⟩
      | succ k ih =>
        rintro x ⟨y, h1, h2⟩
        obtain ⟨a, h3, h4, h5⟩ := ih y h1
        exact ⟨a, h3, h4, y, h5, h2⟩
    obtain ⟨a, h1, h2, h3⟩ := key k j hk
    exact ⟨a, h1, h2, k, h3⟩
  · rintro ⟨a, h1, h2, k, hk⟩
    have key : ∀ k x, Wk (fun y => y = a) (Eg A B F n) k x → Wk (fun x => x < F ∧ 0 < m x) (fun a b => a < F ∧ b < F ∧ B a ≠ n ∧ A b = B a) k x := by
      intro k
      induction k with
      | zero =>
        intro x hx
        have : x = a := hx
        subst this
        exact ⟨h1, h2⟩
      | succ k ih =>
        rintro x ⟨y, h3, h4⟩
        exact ⟨y, ih y h3, h4⟩
    exact ⟨k, key k j hk⟩

theorem gets_world {na fa : Option Addr} {N nc F fc : Nat} {A B : Nat → Int} {w U : World} (hf : Fls w fa F A B) (n : Int)
    (hU : U = (((((w.alloc (.cells #[.slice na N nc, .slice fa F fc] 25)).alloc (.cells #[.int .i64 n] 3)).alloc (.cells (madeCells #[.bool false] F) 4)).alloc (.cells #[.slice (some ⟨w.heap.size + 1 + 1, 0, none⟩) F F] 48)).alloc (.cells #[.func (.func 114) #[] #[.pointer (some ⟨w.heap.size + 1 + 1 + 1, 0, none⟩), .pointer (some ⟨w.heap.size, 0, none⟩), .pointer (some ⟨w.heap.size + 1, 0, none⟩), .pointer (some ⟨w.heap.size + 1 + 1 + 1 + 1, 0, none⟩)]] 163))) :
    Below w.heap.size w U ∧ Gs U (w.heap.size + 1 + 1 + 1) w.heap.size (w.heap.size + 1) (w.heap.size + 1 + 1 + 1 + 1) (w.heap.size + 1 + 1) fa F fc A B n ∧ U.rowIs (w.heap.size + 1 + 1) 4 F (fun _ => .bool false) := by
  subst hU
  have b1 := box_below w (.cells #[.slice na N nc, .slice fa F fc] 25)
  obtain ⟨w1, e1⟩ : ∃ u, u = w.alloc (.cells #[.slice na N nc, .slice fa F fc] 25) := ⟨_, rfl⟩
  have s1 : w1.heap.size = w.heap.size + 1 := by subst e1; simp
  have c1 : w1.cell? ⟨w.heap.size, 1, none⟩ = some (.slice fa F fc) := by subst e1; exact cell_of_alloc rfl
  rw [← e1] at b1 ⊢
  have b2 := box_below w1 (.cells #[.int .i64 n] 3)
  obtain ⟨w2, e2⟩ : ∃ u, u = w1.alloc (.cells #[.int .i64 n] 3) := ⟨_, rfl⟩
  have s2 : w2.heap.size = w.heap.size + 1 + 1 := by subst e2; simp [s1]
  have c2 : w2.cell? ⟨w.heap.size + 1, 0, none⟩ = some (.int .i64 n) := by subst e2; rw [← s1]; exact cell_of_alloc rfl
  rw [← e2] at b2 ⊢
  have b3 := box_below w2 (.cells (madeCells #[.bool false] F) 4)
  have r3 := World.rowIs_made w2 (.bool false) F 4
  obtain ⟨w3, e3⟩ : ∃ u, u = w2.alloc (.cells (madeCells #[.bool false] F) 4) := ⟨_, rfl⟩
  have s3 : w3.heap.size = w.heap.size + 1 + 1 + 1 := by subst e3; simp [s2]
  rw [← e3] at b3 r3 ⊢
  rw [s2] at r3
  have b4 := box_below w3 (.cells #[.slice (some ⟨w.heap.size + 1 + 1, 0, none⟩) F F] 48)
  obtain ⟨w4, e4⟩ : ∃ u, u = w3.alloc (.cells #[.slice (some ⟨w.heap.size + 1 + 1, 0, none⟩) F F] 48) := ⟨_, rfl⟩
  have s4 : w4.heap.size = w.heap.size + 1 + 1 + 1 + 1 := by subst e4; simp [s3]
  have c4 : w4.cell? ⟨w.heap.size + 1 + 1 + 1, 0, none⟩ = some (.slice (some ⟨w.heap.size + 1 + 1, 0, none⟩) F F) := by subst e4; rw [← s3]; exact cell_of_alloc rfl
  have r4 : w4.rowIs (w.heap.size + 1 + 1) 4 F (fun _ => .bool false) := by subst e4; exact r3.alloc _
  rw [← e4] at b4 ⊢
  obtain ⟨o, eo⟩ : ∃ o, o = (Obj.cells #[.func (.func 114) #[] #[.pointer (some ⟨w.heap.size + 1 + 1 + 1, 0, none⟩), .pointer (some ⟨w.heap.size, 0, none⟩), .pointer (some ⟨w.heap.size + 1, 0, none⟩), .pointer (some ⟨w.heap.size + 1 + 1 + 1 + 1, 0, none⟩)]] 163) := ⟨_, rfl⟩
  have b5 := box_below w4 o
  have c5 : (w4.alloc o).cell? ⟨w.heap.size + 1 + 1 + 1 + 1, 0, none⟩ = some (.func (.func 114) #[] #[.pointer (some ⟨w.heap.size + 1 + 1 + 1, 0, none⟩), .pointer (some ⟨w.heap.size, 0, none⟩), .pointer (some ⟨w.heap.size + 1, 0, none⟩), .pointer (some ⟨w.heap.size + 1 + 1 + 1 + 1, 0, none⟩)]) := by subst eo; rw [← s4]; exact cell_of_alloc rfl
  rw [← eo]
  have b25 : Below w2.heap.size w2 (w4.alloc o) := b3.trans ((b4.mono b3.size).trans (b5.mono (Nat.le_trans b3.size b4.size)))
  have b15 : Below w1.heap.size w1 (w4.alloc o) := b2.trans (b25.mono b2.size)
  have b05 : Below w.heap.size w (w4.alloc o) := b1.trans (b15.mono b1.size)
  refine ⟨b05, ⟨?_, ?_, ?_, c5, hf.below b05⟩, r4.alloc o⟩
  · rw [b5.cell (p := ⟨w.heap.size + 1 + 1 + 1, 0, none⟩) (World.block_lt_of_cell? _ _ c4)]; exact c4
  · rw [b15.cell (p := ⟨w.heap.size, 1, none⟩) (World.block_lt_of_cell? _ _ c1)]; exact c1
  · rw [b25.cell (p := ⟨w.heap.size + 1, 0, none⟩) (World.block_lt_of_cell? _ _ c2)]; exact c2

set_option maxHeartbeats 1000000 in
theorem gets_any {na fa : Option Addr} {N nc F fc : Nat} {A B : Nat → Int} {w : World} (hf : Fls w fa F A B) (hF : F ≤ 30) {a b : Nat} (ha : a < F) (hb : b < F) (n : Int) :
    Calls Try.prog 91 #[.agg #[.slice na N nc, .slice fa F fc], .int .i64 (a : Nat), .int .i64 (b : Nat), .int .i64 n] w fun e w' => Told (a ≠ b ∧ Rch A B F n a b) e ∧ Below w.heap.size w w' := by
  have hmk := run_make_row' (P := Try.prog) 48 4 (.bool false) 1 Try.underlying48 Try.info4 rfl .i64 .i64 F (by omega) (by omega)
  obtain ⟨U, eU⟩ : ∃ u, u = (((((w.alloc (.cells #[.slice na N nc, .slice fa F fc] 25)).alloc (.cells #[.int .i64 n] 3)).alloc (.cells (madeCells #[.bool false] F) 4)).alloc (.cells #[.slice (some ⟨w.heap.size + 1 + 1, 0, none⟩) F F] 48)).alloc (.cells #[.func (.func 114) #[] #[.pointer (some ⟨w.heap.size + 1 + 1 + 1, 0, none⟩), .pointer (some ⟨w.heap.size, 0, none⟩), .pointer (some ⟨w.heap.size + 1, 0, none⟩), .pointer (some ⟨w.heap.size + 1 + 1 + 1 + 1, 0, none⟩)]] 163)) := ⟨_, rfl⟩
  have HU : Hid (Below w.heap.size w U ∧ Gs U (w.heap.size + 1 + 1 + 1) w.heap.size (w.heap.size + 1) (w.heap.size + 1 + 1 + 1 + 1) (w.heap.size + 1 + 1) fa F fc A B n ∧ U.rowIs (w.heap.size + 1 + 1) 4 F (fun _ => .bool false)) := gets_world hf n eU
  have HEU : Hid ((((((w.alloc (.cells #[.slice na N nc, .slice fa F fc] 25)).alloc (.cells #[.int .i64 n] 3)).alloc (.cells (madeCells #[.bool false] F) 4)).alloc (.cells #[.slice (some ⟨w.heap.size + 1 + 1, 0, none⟩) F F] 48)).alloc (.cells #[.func (.func 114) #[] #[.pointer (some ⟨w.heap.size + 1 + 1 + 1, 0, none⟩), .pointer (some ⟨w.heap.size, 0, none⟩), .pointer (some ⟨w.heap.size + 1, 0, none⟩), .pointer (some ⟨w.heap.size + 1 + 1 + 1 + 1, 0, none⟩)]] 163)) = U) := eU.symm
  have C : Hid (Calls Try.prog 114 #[.int .i64 (a : Nat), .pointer (some ⟨w.heap.size + 1 + 1 + 1, 0, none⟩), .pointer (some ⟨w.heap.size, 0, none⟩), .pointer (some ⟨w.heap.size + 1, 0, none⟩), .pointer (some ⟨w.heap.size + 1 + 1 + 1 + 1, 0, none⟩)] U fun e w' => e = .returned (.tuple #[]) ∧ U.grownBy w' (some (w.heap.size + 1 + 1)) ∧ Hid (∃ H', Vsd A B F n a (fun _ => false) H' ∧ w'.rowIs (w.heap.size + 1 + 1) 4 F (fun i => .bool (H' i)))) := gets1_any hF F a (fun _ => false) U ha rfl (by omega) HU.out.2.1 HU.out.2.2
  clear eU hf
  go_enter Try.func91, Try.ntmps91
  go_wp2_with fail
  rw [HEU.out]
  refine C.out.mono ?_
  rintro e w2 ⟨rfl, hg2, hX⟩
  obtain ⟨H', hv, hr⟩ := hX.out
  have HB2 : Hid (Below w.heap.size w w2) := HU.out.1.grown hg2 HU.out.1.size (fun q e => by cases e; omega)
  have hc1 := (HU.out.2.1.grown HU.out.2.2 hg2).here
  have hc2 : w2.cell? ⟨w.heap.size + 1 + 1, b, none⟩ = some (.bool (H' b)) := hr.cell hb
  have HV : Hid (H' b = true ↔ Rch A B F n a b) := hv.all ha hb
  have hbi : (b : Int) < F := by omega
  clear hmk hg2 hX hv hr C
  by_cases hab : a = b
  · have hab' : ((a : Int) != (b : Int)) = false := by subst hab; simp
    have HAb : Hid (a = b) := hab
    clear hab
    go_wp2
    go_ret
    exact ⟨told rfl (iff_of_false (by decide) (fun hh => hh.1 HAb.out)), HB2.out⟩
  · have hab' : ((a : Int) != (b : Int)) = true := by rw [bne_iff_ne]; omega
    have HAb : Hid (a ≠ b) := hab
    clear hab
    generalize H' b = z at *
    go_wp2
    go_ret
    exact ⟨told rfl (HV.out.trans ⟨fun h => ⟨HAb.out, h⟩, fun h => h.2⟩), HB2.out⟩

end Go.Proofs.Ythpbgfodejoecaa
