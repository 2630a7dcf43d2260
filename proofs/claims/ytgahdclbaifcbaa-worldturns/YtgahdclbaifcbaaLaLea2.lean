/- least: the least form of a word. -/
import Derived.Test.YtgahdclbaifcbaaLaLea
import Derived.Test.YtgahdclbaifcbaaLaExt
import Derived.Test.YtgahdclbaifcbaaRws
import Derived.Test.YtgahdclbaifcbaaLst
import Derived.Test.YtgahdclbaifcbaaLea
import Derived.Test.YtgahdclbaifcbaaApp
import Derived.Test.YtgahdclbaifcbaaWck
import Derived.Test.YtgahdclbaifcbaaHeld
import Derived.Test.YtgahdclbaifcbaaUnr
import Derived.Test.YtgahdclbaifcbaaSgl
import Derived.Test.YtgahdclbaifcbaaGth
namespace Go.Proofs.Ytgahdclbaifcbaa
open Go.RowKit

/-- The Loop, begun at be, is what comes from the place st on. -/
def Rot (f : Nat → Int) (L : Nat → Int) (p st be : Nat) : Prop := be < p ∧ Per st p f ∧ ∀ i, f (st + i) = L ((be + i) % p)

theorem rot_start {s m : Nat} {S L : Nat → Int} {p : Nat} (hm : 0 < m) (h : Prd m L p) (hpm : p ≤ m) : Rot (ltr s m S L) L p s 0 := by
  have hp := (prd_least (s := s) (S := S) hm h).1
  refine ⟨h.pos, hp, fun i => ?_⟩
  have h1 := Per.mul hp (i / p) (s + i % p) (by omega)
  rw [show s + i % p + p * (i / p) = s + i by have := Nat.mod_add_div i p; omega] at h1
  rw [h1, Nat.zero_add]
  exact ltr_loop (Nat.lt_of_lt_of_le (Nat.mod_lt _ h.pos) hpm)

theorem rot_back {f : Nat → Int} {L : Nat → Int} {p st be : Nat} (h : Rot f L p (st + 1) be) (he : f st = L ((be + p - 1) % p)) : Rot f L p st ((be + p - 1) % p) := by
  obtain ⟨h1, h2, h3⟩ := h
  have hp : 0 < p := by omega
  refine ⟨Nat.mod_lt _ hp, fun i hi => ?_, fun i => ?_⟩
  · by_cases e : i = st
    · subst e
      have := h3 (p - 1)
      rw [show i + 1 + (p - 1) = i + p by omega, show be + (p - 1) = be + p - 1 by omega] at this
      rw [this, he]
    · exact h2 i (by omega)
  · rw [Nat.mod_add_mod]
    cases i with
    | zero => simpa using he
    | succ i =>
      have := h3 i
      rw [show st + (i + 1) = st + 1 + i by omega, this, show be + p - 1 + (i + 1) = be + i + p by omega, Nat.add_mod_right]

theorem rot_last {f : Nat → Int} {L : Nat → Int} {p st be : Nat} (h : Rot f L p (st + 1) be) : L ((be + p - 1) % p) = f (st + p) := by
  obtain ⟨h1, _, h3⟩ := h
  have := h3 (p - 1)
  rw [show st + 1 + (p - 1) = st + p by omega, show be + (p - 1) = be + p - 1 by omega] at this
  exact this.symm

/-- A word, made anew: so many letters of f in its Stem, so many behind them in its Loop. -/
def NewW (w0 : World) (f : Nat → Int) (st lp : Nat) (e : Ending) (w : World) : Prop :=
  ∃ a c b d, e = .returned (.agg #[.slice a st c, .slice b lp d]) ∧ (a = none → st = 0 ∧ c = 0) ∧ (b = none → lp = 0 ∧ d = 0) ∧ st ≤ c ∧ lp ≤ d ∧ RowU w a st f ∧ RowU w b lp (fun i => f (st + i)) ∧ Below w0.heap.size w0 w

theorem fz_of {w : World} {x : Nat} {c : Array Value} {t : TypeId} (h : w.heap[x]? = some (.cells c t (0, 0))) (i : Nat) : w.frozen? ⟨x, i, none⟩ = false := by simp [World.frozen?, h]

theorem la_two_set {w : World} {x : Nat} {u v : Value} {t : TypeId} (h : w.heap[x]? = some (.cells #[u, v] t (0, 0))) (a b : Value) : ((w.setCell ⟨x, 0, none⟩ a).setCell ⟨x, 1, none⟩ b).heap[x]? = some (.cells #[a, b] t (0, 0)) := by
  simp [World.setCell, Array.getElem?_modify, h]

theorem sl_any (x : Addr) (len cap h : Nat) (hh : h ≤ cap) (w : World) : (Instr.slice 24 (.slice (some x) len cap) none (some (.int .i64 h)) none).run Try.prog w = .ok (.slice (some x) h cap) w := by
  rw [run_slice_h (P := Try.prog) (w := w) 24 (some x) len cap Try.elem27 .i64 h (by omega) (by omega), size30]
  have e : x.add 0 = x := by obtain ⟨b, o, s⟩ := x; unfold Addr.add; split <;> simp_all
  simp [Result.andThen, sliced, e]

theorem RowU.but {w w' : World} {a : Option Addr} {n b : Nat} {Z : Nat → Int} (h : RowU w a n Z) (hb : But b w w') (hne : ∀ x, a = some x → x.block ≠ b) : RowU w' a n Z := by
  obtain ⟨c, o, h1, h2⟩ := h
  refine ⟨c, o, h1, fun i hi => hb.cell (hne ⟨c, o, none⟩ (h1 (by omega))) (h2 i hi)⟩

set_option maxHeartbeats 4000000 in
theorem least_any {w : World} {sa : Option Addr} {s sc : Nat} {la : Option Addr} {m lc : Nat} {S L : Nat → Int} (hw : Wd w sa s la m S L) (hsn : sa = none → s = 0 ∧ sc = 0) (hsc : s ≤ sc) (hlc : m ≤ lc) (h60 : s + m ≤ 60) (hm : 0 < m) :
    Calls Try.prog 45 #[.agg #[.slice sa s sc, .slice la m lc]] w fun e w' => ∃ st lp, Lea (ltr s m S L) st lp ∧ st ≤ s ∧ lp ≤ m ∧ NewW w (ltr s m S L) st lp e w' := by
  obtain ⟨p, hP, hpm⟩ := prd_ex hm L
  obtain ⟨lb, lo, hla, hlcell⟩ := hw.loop
  obtain rfl := hla hm
  obtain ⟨u, hu⟩ : ∃ y, y = (w.alloc (.cells #[.slice sa s sc, .slice (some ⟨lb, lo, none⟩) m lc] 41)).alloc (.cells #[.slice none 0 0, .slice none 0 0] 41) := ⟨_, rfl⟩
  have hB : Below w.heap.size w u := by rw [hu]; exact below_alloc2 _ _ _
  have e1 : (w.alloc (.cells #[.slice sa s sc, .slice (some ⟨lb, lo, none⟩) m lc] 41)).heap.size = w.heap.size + 1 := by simp
  have x1 : u.heap[w.heap.size + 1]? = some (.cells #[.slice none 0 0, .slice none 0 0] 41) := by rw [hu]; exact (by rw [← e1]; exact Go.Deep.blk_alloc_new _ _)
  have x0 : u.heap[w.heap.size]? = some (.cells #[.slice sa s sc, .slice (some ⟨lb, lo, none⟩) m lc] 41) := by
    rw [hu, Go.Deep.blk_alloc_lt _ _ _ (by omega)]
    exact Go.Deep.blk_alloc_new _ _
  have hus : u.heap.size = w.heap.size + 1 + 1 := by rw [hu]; simp
  have c0 : u.cell? ⟨w.heap.size, 0, none⟩ = some (.slice sa s sc) := cell_of_cells x0 rfl
  have c1 : u.cell? ⟨w.heap.size, 1, none⟩ = some (.slice (some ⟨lb, lo, none⟩) m lc) := cell_of_cells x0 rfl
  have hp0 := hP.pos
  have C1 : Hid (∀ j, Calls Try.prog 60 #[.slice (some ⟨lb, lo, none⟩) m lc] (u.drewN j) fun e w' => e = .returned (.int .i64 p) ∧ ∃ q, w' = (u.drewN j).drewN q) := fun j =>
    period_any (w := u.drewN j) ⟨lb, lo, fun _ => rfl, (fun i hi => below_cell (below_drewN hB j) (Nat.le_refl _) (hlcell i hi))⟩ hm (by omega) hlc hP hpm
  have sl0 := sl_to lb lo m lc p (by omega)
  have HW := hid hw
  have HP := hid hP
  have HX1 := hid x1
  have HLC : Hid (∀ i, i < m → w.cell? ⟨lb, lo + i, none⟩ = some (.int .u64 (L i))) := hlcell
  have HU := hid hu
  have HB := hid hB
  have HUS := hid hus
  have HC : Hid (u.cell? ⟨w.heap.size, 0, none⟩ = some (.slice sa s sc) ∧ u.cell? ⟨w.heap.size, 1, none⟩ = some (.slice (some ⟨lb, lo, none⟩) m lc)) := ⟨c0, c1⟩
  have HSN := hid hsn
  have HR0 : Hid (Rot (ltr s m S L) L p s 0) := rot_start hm hP hpm
  clear hu hB e1 x1 x0 hlcell hla hw hP hus hsn
  generalize hf : ltr s m S L = f at *
  have HF : Hid (∀ i, i < s → S i = f i) := fun i hi => by rw [← hf]; exact (ltr_stem hi).symm
  have HLE : Hid (∀ st, Per st p f → (st = 0 ∨ f (st - 1 + p) ≠ f (st - 1)) → Lea f st p) := fun st h1 h2 => by
    rw [← hf] at h1 h2 ⊢
    exact lea_of hm HP.out h1 h2
  clear hf
  go_enter Try.func45, Try.ntmps45
  go_upto_region 1 with fail
  rw [← HU.out]
  go_quiet (first | (go_at_call 60; exact Calls.quiet_of (C1.out _)))
  clear C1 sl0 HU
  obtain ⟨uq, huq⟩ : ∃ y, y = u.drewN nq := ⟨_, rfl⟩
  rw [← huq]
  have c0q : uq.cell? ⟨w.heap.size, 0, none⟩ = some (.slice sa s sc) := by rw [huq]; exact c0
  have HUQ : Hid (uq.heap = u.heap ∧ Below w.heap.size w uq) := ⟨by rw [huq]; rfl, by rw [huq]; exact below_drewN HB.out _⟩
  clear c0 c1 huq
  go_wp2
  go_loopw [4, 5] (fun x y wr => ∃ σ β : Nat, σ ≤ s ∧ x = .int .i64 σ ∧ y = .int .i64 β ∧ Hid (Rot f L p σ β ∧ wr.heap = uq.heap ∧ Below w.heap.size w wr)) (fun x _ _ => (intOf x).toNat)
  case atStart => exact ⟨s, 0, Nat.le_refl _, rfl, rfl, hid ⟨HR0.out, rfl, HUQ.out.2⟩⟩
  case round =>
    obtain ⟨σ, β, hσ, rfl, rfl, HQ⟩ := hrel
    have hβ0 : β < p := HQ.out.1.1
    by_cases hpos : 0 < σ
    · obtain ⟨τ, rfl⟩ : ∃ τ, σ = τ + 1 := ⟨σ - 1, by omega⟩
      obtain ⟨r, hr⟩ : ∃ r, r = (β + p - 1) % p := ⟨_, rfl⟩
      have hrp : r < p := by rw [hr]; exact Nat.mod_lt _ hp0
      have e2 : ((β : Int) + p - 1) % (p : Int) = (r : Int) := by
        rw [hr, show ((β : Int) + p - 1) = ((β + p - 1 : Nat) : Int) by omega]
        omega
      obtain ⟨sb, so, hsa, hscell⟩ := HW.out.stem
      obtain rfl := hsa (by omega)
      have k0 : wr.cell? ⟨w.heap.size, 0, none⟩ = some (.slice (some ⟨sb, so, none⟩) s sc) := by rw [World.cell?_of_block (w := uq) (by rw [HQ.out.2.1])]; exact c0q
      have k1 : wr.cell? ⟨sb, so + τ, none⟩ = some (.int .u64 (S τ)) := below_cell HQ.out.2.2 (Nat.le_refl _) (hscell τ (by omega))
      have k2 : wr.cell? ⟨lb, lo + r, none⟩ = some (.int .u64 (L r)) := below_cell HQ.out.2.2 (Nat.le_refl _) (HLC.out r (by omega))
      have hwt : IntKind.i64.wrap (τ : Int) = τ := by rw [IntKind.wrap_i64] <;> omega
      have hτz : (τ : Int) < s := by omega
      have hrz : (r : Int) < p := by omega
      have HRR := hid hr
      clear hr hscell hsa
      have hp1 : ¬ p = 0 := by omega
      have ht0 : (0 : Int) < (τ : Int) + 1 := by omega
      by_cases he : S τ = L r
      · have hb : (S τ != L r) = false := by simp [he]
        have HE := hid he
        clear he
        go_wp2
        go_quiet (fail)
        go_wp2
        go_roundw
        case rel =>
          refine ⟨τ, r, by omega, by first | rfl | go_num, by rw [e2], hid ⟨?_, HQ.out.2.1, below_drewN HQ.out.2.2 _⟩⟩
          rw [HRR.out]
          refine rot_back HQ.out.1 ?_
          rw [← HF.out τ (by omega), ← HRR.out]
          exact HE.out
        case measure => simp [intOf]
      · have hb : (S τ != L r) = true := by simp [he]
        have HE := hid he
        clear he
        go_wp2
        go_quiet (fail)
        go_wp2_with fail
        obtain ⟨σ, hσd⟩ : ∃ y, y = τ + 1 := ⟨_, rfl⟩
        have HV : Hid (Rot f L p (τ + 1) β ∧ (wr.drewN nq).heap = uq.heap ∧ Below w.heap.size w (wr.drewN nq)) := ⟨HQ.out.1, HQ.out.2.1, below_drewN HQ.out.2.2 _⟩
        have HST : Hid (τ + 1 = 0 ∨ f (τ + 1 - 1 + p) ≠ f (τ + 1 - 1)) := by
          refine Or.inr (fun h => HE.out ?_)
          rw [Nat.add_sub_cancel] at h
          rw [HF.out τ (by omega), ← h, HRR.out]
          exact (rot_last HQ.out.1).symm
        obtain ⟨wv, hwv⟩ : ∃ y, y = wr.drewN nq := ⟨_, rfl⟩
        obtain ⟨sa, hsae⟩ : ∃ y, y = some (⟨sb, so, none⟩ : Addr) := ⟨_, rfl⟩
        rw [← hσd] at HV HST hσ ⊢
        rw [← hwv] at HV ⊢
        rw [← hsae] at HW HC HSN c0q ⊢
        clear hσd hwv hsae k0 k1 k2 HQ HE HRR hb e2 hpos hwt hτz hrz ht0
        have HBW : Hid (Below w.heap.size w wv ∧ wv.heap = u.heap) := ⟨HV.out.2.2, HV.out.2.1.trans HUQ.out.1⟩
        have hβ : β < p := HV.out.1.1
        have k0 : wv.cell? ⟨w.heap.size, 0, none⟩ = some (.slice sa s sc) := by rw [World.cell?_of_block (w := u) (by rw [HBW.out.2])]; exact HC.out.1
        have hsl : ∀ z, (Instr.slice 24 (.slice sa s sc) none (some (.int .i64 σ)) none).run Try.prog z = .ok (.slice sa σ sc) z := by
          intro z
          cases hsa : sa with
          | none => exact sl_to_nil s sc σ (by omega) z
          | some x => exact sl_any x s sc σ (by omega) z
        have sl1 := sl_from lb lo p lc β (by omega) (by omega)
        have sl2 := sl_to lb lo p lc β (by omega)
        have hσn : sa = none → σ = 0 ∧ sc = 0 := fun h => by have := HSN.out h; omega
        have HSNN := hid hσn
        have HWr := hid (HW.out.below HBW.out.1)
        have HLr : Hid (∀ z, Below wv.heap.size wv z → ∀ i, i < m → z.cell? ⟨lb, lo + i, none⟩ = some (.int .u64 (L i))) := fun z hz i hi => below_cell hz (Nat.le_refl _) (below_cell HBW.out.1 (Nat.le_refl _) (HLC.out i hi))
        have HSZ : Hid (wv.heap.size = w.heap.size + 1 + 1) := by rw [HBW.out.2]; exact HUS.out
        have HX : Hid (wv.heap[w.heap.size + 1]? = some (.cells #[.slice none 0 0, .slice none 0 0] 41)) := by rw [HBW.out.2]; exact HX1.out
        have hσ60 : σ ≤ 1000 := by omega
        have hcat : p - β + β ≤ 60 := by omega
        have hcat0 : 0 < p - β + β := by omega
        clear hσn HX1 HR0
        have hne : w.heap.size ≠ w.heap.size + 1 := by omega
        have HCL : Hid (∀ z, Below wv.heap.size wv z → Calls Try.prog 61 #[.slice sa σ sc] z fun e w' => ∃ a3 c3, e = .returned (.slice a3 σ c3) ∧ (a3 = none → σ = 0 ∧ c3 = 0) ∧ (∀ b, a3 = some b → wv.heap.size ≤ b.block) ∧ σ ≤ c3 ∧ RowU w' a3 σ S ∧ Below wv.heap.size wv w' ∧ Below z.heap.size z w') := fun z hz => by
          refine (clone_any sa σ sc S z hσ60 ((HWr.out.stem.below hz).take hσ) HSNN.out).mono ?_
          rintro e w3 ⟨v3, rfl, hv3, hb3⟩
          obtain ⟨_, a3, c3, rfl, q1, q2, q3, q4⟩ := rowU_of_owns hv3
          exact ⟨a3, c3, rfl, q1, fun b hb => Nat.le_trans hz.size (q2 b hb), q3, q4 S (fun i hi => lstU_at σ S i hi), hz.trans (hb3.mono hz.size), hb3⟩
        have HCC : Hid (∀ z gb, Below wv.heap.size wv z → z.cell? ⟨gb, 0, none⟩ = some (.slice (some ⟨lb, lo + β, none⟩) (p - β) (lc - β)) → z.cell? ⟨gb, 1, none⟩ = some (.slice (some ⟨lb, lo, none⟩) β lc) → Calls Try.prog 62 #[.slice (some ⟨gb, 0, none⟩) 2 2] z fun e w' => ∃ va vc, e = .returned (.slice va p vc) ∧ (va = none → p = 0 ∧ vc = 0) ∧ (∀ b, va = some b → wv.heap.size ≤ b.block) ∧ p ≤ vc ∧ RowU w' va p (la_cat (p - β) (fun i => L (β + i)) L) ∧ Below wv.heap.size wv w' ∧ Below z.heap.size z w') := fun z gb hz h0 h1 => by
          refine (concat_any (sa := some ⟨lb, lo + β, none⟩) (s := p - β) (sc := lc - β) (la := some ⟨lb, lo, none⟩) (m := β) (lc := lc) (S := fun i => L (β + i)) (L := L) h0 h1 ?_ ?_ (fun h => by cases h) (fun h => by cases h) hcat hcat0).mono ?_
          · exact RowU.drop (n := p) (fun i hi => HLr.out _ hz i (by omega))
          · exact ⟨lb, lo, fun _ => rfl, fun i hi => HLr.out _ hz i (by omega)⟩
          · rintro e w4 ⟨va, vc, he, n1, n2, n3, n4, n5⟩
            rw [show p - β + β = p by omega] at he n1 n3 n4
            exact ⟨va, vc, he, n1, fun b hb => Nat.le_trans hz.size (n2 b hb), n3, n4, hz.trans (n5.mono hz.size), n5⟩
        have HKS : Hid (∀ z, Below wv.heap.size wv z → z.cell? ⟨w.heap.size, 0, none⟩ = some (.slice sa s sc) ∧ z.heap[w.heap.size + 1]? = some (.cells #[.slice none 0 0, .slice none 0 0] 41)) := fun z hz => ⟨below_cell hz (Nat.le_refl _) k0, (hz.block _ (Array.getElem?_eq_some_iff.1 HX.out).1).trans HX.out⟩
        go_region_held3 (fun z => z.cell? ⟨w.heap.size, 0, none⟩ = some (.slice sa s sc)) (first | (exact keep_set (keep_set y1 hne) hne) | (exact y1) | (exact below_cell (box_below _ _) (Nat.le_refl _) y0) | (exact y0) | (exact below_cell (below_drewN (box_below _ _) 1) (Nat.le_refl _) k0) | (exact below_cell (box_below _ _) (Nat.le_refl _) k0) | go_keep)
          (first | (go_at_call 61; refine (HCL.out _ ?_).mono ?_; (first | (exact below_drewN (Below.refl _ _) 1) | (exact below_drewN (box_below wv _) 1)); rintro e w3 ⟨a3, c3, rfl, q1, q2, q3, q4, hb3', hb3⟩; have y0 := (HKS.out w3 hb3').1) | (go_at_call 62; refine (HCC.out _ _ ?_ ?_ ?_).mono ?_; (first | (exact hb3') | (exact hb3'.alloc hb3'.size _)); (first | (exact below_cell hb3 (Nat.le_refl _) (cell_of_alloc rfl)) | (exact cell_of_alloc rfl)); (first | (exact below_cell hb3 (Nat.le_refl _) (cell_of_alloc rfl)) | (exact cell_of_alloc rfl)); rintro e w4 ⟨va, vc, rfl, n1, n2, n3, n4, hb4, n5⟩; have q5 : RowU w4 a3 σ S := (by first | exact q4.below n5 | exact (q4.below (box_below w3 _)).below n5); have y1 := (HKS.out w4 hb4).1; have x4 := (HKS.out w4 hb4).2; have z0 := (two_cells x4).1; have z1 := (two_cells x4).2; have f0 := fz_of x4 0; have f1 := fz_of x4 1) | fail)
        all_goals
          have H4 : Hid ((a3 = none → σ = 0 ∧ c3 = 0) ∧ (∀ b, a3 = some b → wv.heap.size ≤ b.block) ∧ σ ≤ c3 ∧ RowU w4 a3 σ S ∧ (va = none → p = 0 ∧ vc = 0) ∧ (∀ b, va = some b → wv.heap.size ≤ b.block) ∧ p ≤ vc ∧ RowU w4 va p (la_cat (p - β) (fun i => L (β + i)) L) ∧ Below wv.heap.size wv w4) := ⟨q1, q2, q3, q5, n1, n2, n3, n4, hb4⟩
          have HX4 := hid x4
          clear q1 q2 q3 q4 q5 n1 n2 n3 n4 n5 hb3 hb3' hb4 y0 y1 x4 z0 z1 f0 f1 k0 hsl sl1 sl2
          go_wp2
          obtain ⟨W, hW⟩ : ∃ y, y = (w4.setCell ⟨w.heap.size + 1, 0, none⟩ (.slice a3 σ c3)).setCell ⟨w.heap.size + 1, 1, none⟩ (.slice va p vc) := ⟨_, rfl⟩
          rw [← hW]
          have hbut : But (w.heap.size + 1) w4 W := by rw [hW]; exact ((But.refl _ _).setCell _ _).setCell _ _
          have hWx : W.heap[w.heap.size + 1]? = some (.cells #[.slice a3 σ c3, .slice va p vc] 41) := by rw [hW]; exact la_two_set HX4.out _ _
          refine bodyPost_ret (results_cell_row rfl _ _ (w.heap.size + 1) 41 #[.slice a3 σ c3, .slice va p vc] (0, 0) _ rfl hWx Try.underlying41 rfl (by kernel_rfl)) rfl ?_
          refine ⟨σ, p, HLE.out σ HV.out.1.2.1 HST.out, hσ, hpm, a3, c3, va, vc, rfl, H4.out.1, H4.out.2.2.2.2.1, H4.out.2.2.1, H4.out.2.2.2.2.2.2.1, ?_, ?_, ?_⟩
          · exact (H4.out.2.2.2.1.but hbut (fun y hy => by have := H4.out.2.1 y hy; have := HSZ.out; omega)).congr (fun i hi => HF.out i (by omega))
          · refine (H4.out.2.2.2.2.2.2.2.1.but hbut (fun y hy => by have := H4.out.2.2.2.2.2.1 y hy; have := HSZ.out; omega)).congr (fun i hi => ?_)
            rw [HV.out.1.2.2 i]
            unfold la_cat
            by_cases e : i < p - β
            · rw [if_pos e, Nat.mod_eq_of_lt (by omega)]
            · rw [if_neg e, Nat.mod_eq_sub_mod (by omega), Nat.mod_eq_of_lt (by omega)]
              congr 1
              omega
          · have h1 : Below w.heap.size w w4 := HBW.out.1.trans (H4.out.2.2.2.2.2.2.2.2.mono HBW.out.1.size)
            exact h1.trans (hbut.below (by omega) h1.size)
    · have HV := hid HQ.out
      have HST : Hid (σ = 0 ∨ f (σ - 1 + p) ≠ f (σ - 1)) := Or.inl (by omega)
      obtain ⟨wv, hwv⟩ : ∃ y, y = wr := ⟨_, rfl⟩
      rw [← hwv] at HV ⊢
      clear hwv HQ
      go_wp2_with fail
      have HBW : Hid (Below w.heap.size w wv ∧ wv.heap = u.heap) := ⟨HV.out.2.2, HV.out.2.1.trans HUQ.out.1⟩
      have hβ : β < p := HV.out.1.1
      have k0 : wv.cell? ⟨w.heap.size, 0, none⟩ = some (.slice sa s sc) := by rw [World.cell?_of_block (w := u) (by rw [HBW.out.2])]; exact HC.out.1
      have hsl : ∀ z, (Instr.slice 24 (.slice sa s sc) none (some (.int .i64 σ)) none).run Try.prog z = .ok (.slice sa σ sc) z := by
        intro z
        cases hsa : sa with
        | none => exact sl_to_nil s sc σ (by omega) z
        | some x => exact sl_any x s sc σ (by omega) z
      have sl1 := sl_from lb lo p lc β (by omega) (by omega)
      have sl2 := sl_to lb lo p lc β (by omega)
      have hσn : sa = none → σ = 0 ∧ sc = 0 := fun h => by have := HSN.out h; omega
      have HSNN := hid hσn
      have HWr := hid (HW.out.below HBW.out.1)
      have HLr : Hid (∀ z, Below wv.heap.size wv z → ∀ i, i < m → z.cell? ⟨lb, lo + i, none⟩ = some (.int .u64 (L i))) := fun z hz i hi => below_cell hz (Nat.le_refl _) (below_cell HBW.out.1 (Nat.le_refl _) (HLC.out i hi))
      have HSZ : Hid (wv.heap.size = w.heap.size + 1 + 1) := by rw [HBW.out.2]; exact HUS.out
      have HX : Hid (wv.heap[w.heap.size + 1]? = some (.cells #[.slice none 0 0, .slice none 0 0] 41)) := by rw [HBW.out.2]; exact HX1.out
      have hσ60 : σ ≤ 1000 := by omega
      have hcat : p - β + β ≤ 60 := by omega
      have hcat0 : 0 < p - β + β := by omega
      clear hσn HX1 HR0
      have hne : w.heap.size ≠ w.heap.size + 1 := by omega
      have HCL : Hid (∀ z, Below wv.heap.size wv z → Calls Try.prog 61 #[.slice sa σ sc] z fun e w' => ∃ a3 c3, e = .returned (.slice a3 σ c3) ∧ (a3 = none → σ = 0 ∧ c3 = 0) ∧ (∀ b, a3 = some b → wv.heap.size ≤ b.block) ∧ σ ≤ c3 ∧ RowU w' a3 σ S ∧ Below wv.heap.size wv w' ∧ Below z.heap.size z w') := fun z hz => by
        refine (clone_any sa σ sc S z hσ60 ((HWr.out.stem.below hz).take hσ) HSNN.out).mono ?_
        rintro e w3 ⟨v3, rfl, hv3, hb3⟩
        obtain ⟨_, a3, c3, rfl, q1, q2, q3, q4⟩ := rowU_of_owns hv3
        exact ⟨a3, c3, rfl, q1, fun b hb => Nat.le_trans hz.size (q2 b hb), q3, q4 S (fun i hi => lstU_at σ S i hi), hz.trans (hb3.mono hz.size), hb3⟩
      have HCC : Hid (∀ z gb, Below wv.heap.size wv z → z.cell? ⟨gb, 0, none⟩ = some (.slice (some ⟨lb, lo + β, none⟩) (p - β) (lc - β)) → z.cell? ⟨gb, 1, none⟩ = some (.slice (some ⟨lb, lo, none⟩) β lc) → Calls Try.prog 62 #[.slice (some ⟨gb, 0, none⟩) 2 2] z fun e w' => ∃ va vc, e = .returned (.slice va p vc) ∧ (va = none → p = 0 ∧ vc = 0) ∧ (∀ b, va = some b → wv.heap.size ≤ b.block) ∧ p ≤ vc ∧ RowU w' va p (la_cat (p - β) (fun i => L (β + i)) L) ∧ Below wv.heap.size wv w' ∧ Below z.heap.size z w') := fun z gb hz h0 h1 => by
        refine (concat_any (sa := some ⟨lb, lo + β, none⟩) (s := p - β) (sc := lc - β) (la := some ⟨lb, lo, none⟩) (m := β) (lc := lc) (S := fun i => L (β + i)) (L := L) h0 h1 ?_ ?_ (fun h => by cases h) (fun h => by cases h) hcat hcat0).mono ?_
        · exact RowU.drop (n := p) (fun i hi => HLr.out _ hz i (by omega))
        · exact ⟨lb, lo, fun _ => rfl, fun i hi => HLr.out _ hz i (by omega)⟩
        · rintro e w4 ⟨va, vc, he, n1, n2, n3, n4, n5⟩
          rw [show p - β + β = p by omega] at he n1 n3 n4
          exact ⟨va, vc, he, n1, fun b hb => Nat.le_trans hz.size (n2 b hb), n3, n4, hz.trans (n5.mono hz.size), n5⟩
      have HKS : Hid (∀ z, Below wv.heap.size wv z → z.cell? ⟨w.heap.size, 0, none⟩ = some (.slice sa s sc) ∧ z.heap[w.heap.size + 1]? = some (.cells #[.slice none 0 0, .slice none 0 0] 41)) := fun z hz => ⟨below_cell hz (Nat.le_refl _) k0, (hz.block _ (Array.getElem?_eq_some_iff.1 HX.out).1).trans HX.out⟩
      go_region_held3 (fun z => z.cell? ⟨w.heap.size, 0, none⟩ = some (.slice sa s sc)) (first | (exact keep_set (keep_set y1 hne) hne) | (exact y1) | (exact below_cell (box_below _ _) (Nat.le_refl _) y0) | (exact y0) | (exact below_cell (below_drewN (box_below _ _) 1) (Nat.le_refl _) k0) | (exact below_cell (box_below _ _) (Nat.le_refl _) k0) | go_keep)
        (first | (go_at_call 61; refine (HCL.out _ ?_).mono ?_; (first | (exact below_drewN (Below.refl _ _) 1) | (exact below_drewN (box_below wv _) 1)); rintro e w3 ⟨a3, c3, rfl, q1, q2, q3, q4, hb3', hb3⟩; have y0 := (HKS.out w3 hb3').1) | (go_at_call 62; refine (HCC.out _ _ ?_ ?_ ?_).mono ?_; (first | (exact hb3') | (exact hb3'.alloc hb3'.size _)); (first | (exact below_cell hb3 (Nat.le_refl _) (cell_of_alloc rfl)) | (exact cell_of_alloc rfl)); (first | (exact below_cell hb3 (Nat.le_refl _) (cell_of_alloc rfl)) | (exact cell_of_alloc rfl)); rintro e w4 ⟨va, vc, rfl, n1, n2, n3, n4, hb4, n5⟩; have q5 : RowU w4 a3 σ S := (by first | exact q4.below n5 | exact (q4.below (box_below w3 _)).below n5); have y1 := (HKS.out w4 hb4).1; have x4 := (HKS.out w4 hb4).2; have z0 := (two_cells x4).1; have z1 := (two_cells x4).2; have f0 := fz_of x4 0; have f1 := fz_of x4 1) | fail)
      all_goals
        have H4 : Hid ((a3 = none → σ = 0 ∧ c3 = 0) ∧ (∀ b, a3 = some b → wv.heap.size ≤ b.block) ∧ σ ≤ c3 ∧ RowU w4 a3 σ S ∧ (va = none → p = 0 ∧ vc = 0) ∧ (∀ b, va = some b → wv.heap.size ≤ b.block) ∧ p ≤ vc ∧ RowU w4 va p (la_cat (p - β) (fun i => L (β + i)) L) ∧ Below wv.heap.size wv w4) := ⟨q1, q2, q3, q5, n1, n2, n3, n4, hb4⟩
        have HX4 := hid x4
        clear q1 q2 q3 q4 q5 n1 n2 n3 n4 n5 hb3 hb3' hb4 y0 y1 x4 z0 z1 f0 f1 k0 hsl sl1 sl2
        go_wp2
        obtain ⟨W, hW⟩ : ∃ y, y = (w4.setCell ⟨w.heap.size + 1, 0, none⟩ (.slice a3 σ c3)).setCell ⟨w.heap.size + 1, 1, none⟩ (.slice va p vc) := ⟨_, rfl⟩
        rw [← hW]
        have hbut : But (w.heap.size + 1) w4 W := by rw [hW]; exact ((But.refl _ _).setCell _ _).setCell _ _
        have hWx : W.heap[w.heap.size + 1]? = some (.cells #[.slice a3 σ c3, .slice va p vc] 41) := by rw [hW]; exact la_two_set HX4.out _ _
        refine bodyPost_ret (results_cell_row rfl _ _ (w.heap.size + 1) 41 #[.slice a3 σ c3, .slice va p vc] (0, 0) _ rfl hWx Try.underlying41 rfl (by kernel_rfl)) rfl ?_
        refine ⟨σ, p, HLE.out σ HV.out.1.2.1 HST.out, hσ, hpm, a3, c3, va, vc, rfl, H4.out.1, H4.out.2.2.2.2.1, H4.out.2.2.1, H4.out.2.2.2.2.2.2.1, ?_, ?_, ?_⟩
        · exact (H4.out.2.2.2.1.but hbut (fun y hy => by have := H4.out.2.1 y hy; have := HSZ.out; omega)).congr (fun i hi => HF.out i (by omega))
        · refine (H4.out.2.2.2.2.2.2.2.1.but hbut (fun y hy => by have := H4.out.2.2.2.2.2.1 y hy; have := HSZ.out; omega)).congr (fun i hi => ?_)
          rw [HV.out.1.2.2 i]
          unfold la_cat
          by_cases e : i < p - β
          · rw [if_pos e, Nat.mod_eq_of_lt (by omega)]
          · rw [if_neg e, Nat.mod_eq_sub_mod (by omega), Nat.mod_eq_of_lt (by omega)]
            congr 1
            omega
        · have h1 : Below w.heap.size w w4 := HBW.out.1.trans (H4.out.2.2.2.2.2.2.2.2.mono HBW.out.1.size)
          exact h1.trans (hbut.below (by omega) h1.size)

end Go.Proofs.Ytgahdclbaifcbaa

