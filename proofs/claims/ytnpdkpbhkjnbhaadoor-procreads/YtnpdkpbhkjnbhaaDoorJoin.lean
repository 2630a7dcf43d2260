/- join. -/
import Derived.Test.YtnpdkpbhkjnbhaaDoorRead2
import Derived.Test.YtnpdkpbhkjnbhaaDoorCls
import Derived.Deep.RegionWith
namespace Go.Proofs.YtnpdkpbhkjnbhaaDoor
open Go.RowKit

def mM (ns : List (ByteArray × Nat)) (i : Nat) : ByteArray := (ns.getD i (⟨#[]⟩, 0)).1
def mK (ns : List (ByteArray × Nat)) (i : Nat) : Int := ((ns.getD i (⟨#[]⟩, 0)).2 : Int)

theorem valsN_get (l : List (ByteArray × Nat)) : ∀ i, i < l.length → (valsN l)[i * 2]? = some (.string (mM l i)) ∧ (valsN l)[i * 2 + 1]? = some (.int .i64 (mK l i)) := by
  induction l with
  | nil => intro i hi; simp at hi
  | cons a l ih =>
    intro i hi
    have e : valsN (a :: l) = .string a.1 :: .int .i64 a.2 :: valsN l := rfl
    rw [e]
    cases i with
    | zero => exact ⟨rfl, rfl⟩
    | succ i =>
      have h := ih i (by simpa using hi)
      have e1 : (i + 1) * 2 = i * 2 + 1 + 1 := by omega
      rw [e1]
      refine ⟨by simpa [mM] using h.1, ?_⟩
      have e2 : i * 2 + 1 + 1 + 1 = (i * 2 + 1) + 1 + 1 := by omega
      rw [e2]
      simpa [mK] using h.2

theorem valsS_get (l : List (ByteArray × ByteArray)) : ∀ i, i < l.length → (valsS l)[i * 2]? = some (.string (l.getD i (⟨#[]⟩, ⟨#[]⟩)).1) ∧ (valsS l)[i * 2 + 1]? = some (.string (l.getD i (⟨#[]⟩, ⟨#[]⟩)).2) := by
  induction l with
  | nil => intro i hi; simp at hi
  | cons a l ih =>
    intro i hi
    have e : valsS (a :: l) = .string a.1 :: .string a.2 :: valsS l := rfl
    rw [e]
    cases i with
    | zero => exact ⟨rfl, rfl⟩
    | succ i =>
      have h := ih i (by simpa using hi)
      have e1 : (i + 1) * 2 = i * 2 + 1 + 1 := by omega
      rw [e1]
      refine ⟨by simpa using h.1, ?_⟩
      have e2 : i * 2 + 1 + 1 + 1 = (i * 2 + 1) + 1 + 1 := by omega
      rw [e2]
      simpa using h.2

theorem addr_add (b o j : Nat) : (⟨b, o, none⟩ : Addr).add j = ⟨b, o + j, none⟩ := by unfold Addr.add; split <;> simp_all

theorem owns_nds {w : World} {B c : Nat} {a : Option Addr} {ns : List (ByteArray × Nat)} (h : w.ownsRow B 39 2 (.slice a ns.length c) ns.length (valsN ns)) : Nds w a ns.length (mM ns) (mK ns) := by
  rcases h.2 with ⟨h1, h0⟩ | ⟨g, cap, cur, h1, hb, hg, _⟩
  · exact ⟨0, 0, fun hh => by omega, fun i hi => by omega⟩
  · cases h1
    refine ⟨g, 0, fun _ => rfl, fun i hi => ?_⟩
    obtain ⟨h1, h2⟩ := valsN_get ns i hi
    have c1 := h.cells (g := g) rfl _ _ h1
    have c2 := h.cells (g := g) rfl _ _ h2
    rw [addr_add] at c1 c2
    exact ⟨c1, c2⟩

/-- The named flows in memory. -/
theorem owns_nfl {w : World} {B c : Nat} {a : Option Addr} {fs : List (ByteArray × ByteArray)} (h : w.ownsRow B 79 2 (.slice a fs.length c) fs.length (valsS fs)) :
    ∃ b o, (0 < fs.length → a = some ⟨b, o, none⟩) ∧ ∀ i, i < fs.length → w.cell? ⟨b, o + i * 2, none⟩ = some (.string (fs.getD i (⟨#[]⟩, ⟨#[]⟩)).1) ∧ w.cell? ⟨b, o + i * 2 + 1, none⟩ = some (.string (fs.getD i (⟨#[]⟩, ⟨#[]⟩)).2) := by
  rcases h.2 with ⟨h1, h0⟩ | ⟨g, cap, cur, h1, hb, hg, _⟩
  · exact ⟨0, 0, fun hh => by omega, fun i hi => by omega⟩
  · cases h1
    refine ⟨g, 0, fun _ => rfl, fun i hi => ?_⟩
    obtain ⟨h1, h2⟩ := valsS_get fs i hi
    have c1 := h.cells (g := g) rfl _ _ h1
    have c2 := h.cells (g := g) rfl _ _ h2
    rw [addr_add] at c1 c2
    exact ⟨c1, c2⟩

/-- The cells of the first k flows. -/
def valsF (A B : Nat → Int) : Nat → List Value
  | 0 => []
  | k + 1 => valsF A B k ++ [.int .i64 (A k), .int .i64 (B k)]

theorem valsF_len (A B : Nat → Int) : ∀ k, (valsF A B k).length = k * 2
  | 0 => rfl
  | k + 1 => by simp [valsF, valsF_len A B k]; omega

theorem valsF_get (A B : Nat → Int) : ∀ k i, i < k → (valsF A B k)[i * 2]? = some (.int .i64 (A i)) ∧ (valsF A B k)[i * 2 + 1]? = some (.int .i64 (B i))
  | 0, i, h => by omega
  | k + 1, i, h => by
    have hl := valsF_len A B k
    by_cases e : i = k
    · subst e
      rw [valsF, List.getElem?_append_right (by omega), List.getElem?_append_right (by omega), hl]
      have e1 : i * 2 - i * 2 = 0 := by omega
      have e2 : i * 2 + 1 - i * 2 = 1 := by omega
      rw [e1, e2]
      exact ⟨rfl, rfl⟩
    · rw [valsF, List.getElem?_append_left (by omega), List.getElem?_append_left (by omega)]
      exact valsF_get A B k i (by omega)

theorem owns_fls {w : World} {B0 c n : Nat} {a : Option Addr} {A B : Nat → Int} (h : w.ownsRow B0 42 2 (.slice a n c) n (valsF A B n)) : Fls w a n A B := by
  rcases h.2 with ⟨h1, h0⟩ | ⟨g, cap, cur, h1, hb, hg, _⟩
  · exact ⟨0, 0, fun hh => by omega, fun i hi => by omega⟩
  · cases h1
    refine ⟨g, 0, fun _ => rfl, fun i hi => ?_⟩
    obtain ⟨h1, h2⟩ := valsF_get A B n i hi
    have c1 := h.cells (g := g) rfl _ _ h1
    have c2 := h.cells (g := g) rfl _ _ h2
    rw [addr_add] at c1 c2
    exact ⟨c1, c2⟩

theorem fls_step {w0 wr w1 : World} {v v' : Value} {A B : Nat → Int} {k : Nat} {o : Obj} (hb : Below w0.heap.size w0 wr) (ho : wr.ownsRow w0.heap.size 42 2 v k (valsF A B k))
    (hown : w1.ownsRow w0.heap.size 42 2 v' (k + 1) (valsF A B k ++ [.int .i64 (A k), .int .i64 (B k)])) (hgrow : (wr.alloc o).grownBy w1 v.ownBlock) :
    (∃ a c, v' = .slice a (k + 1) c) ∧ Hid (Below w0.heap.size w0 w1 ∧ w1.ownsRow w0.heap.size 42 2 v' (k + 1) (valsF A B (k + 1))) := by
  refine ⟨?_, hid ⟨?_, hown⟩⟩
  · rcases hown.2 with ⟨_, h0⟩ | ⟨g, cap, cur, rfl, _⟩
    · omega
    · exact ⟨_, _, rfl⟩
  · exact hb.grown ((World.grownBy_alloc _ _ _).trans hgrow) hb.size (fun b h => (ho.lt b h).1)

def jA (x : Dft) (i : Nat) : Int := fnd x.1.length (mM x.1) (x.2.getD i (⟨#[]⟩, ⟨#[]⟩)).1
def jB (x : Dft) (i : Nat) : Int := fnd x.1.length (mM x.1) (x.2.getD i (⟨#[]⟩, ⟨#[]⟩)).2

/-- What join answers. -/
def JnOut (x : Dft) (e : Ending) (w' : World) : Prop :=
  (∃ i, i < x.2.length ∧ (jA x i = -1 ∨ jB x i = -1) ∧ (∀ j, j < i → jA x j ≠ -1 ∧ jB x j ≠ -1) ∧ e = .returned (.tuple #[.slice none 0 0, .int .i64 ((x.1.length + i + 1 : Nat) : Int)])) ∨
    ((∀ j, j < x.2.length → jA x j ≠ -1 ∧ jB x j ≠ -1) ∧ ∃ a c, e = .returned (.tuple #[.slice a x.2.length c, .int .i64 0]) ∧ Fls w' a x.2.length (jA x) (jB x))

theorem fnd_ge (N : Nat) (M : Nat → ByteArray) (s : ByteArray) : -1 ≤ fnd N M s := by
  unfold fnd
  split <;> omega

set_option maxRecDepth 20000 in
set_option maxHeartbeats 4000000 in
theorem join_any {w : World} {B d : Nat} {x : Dft} {vn vf : Value} (h : Df w B d x vn vf) (hx1 : x.1.length ≤ 4096) (hx2 : x.2.length ≤ 4096) :
    Calls Tryd.prog 23 #[.pointer (some ⟨d, 0, none⟩)] w fun e w' => Below w.heap.size w w' ∧ JnOut x e w' := by
  obtain ⟨na, nc, hvn, _⟩ := owns_form h.nds
  obtain ⟨fa, fc, hvf, _⟩ := owns_form h.fls
  subst hvn
  subst hvf
  have hc0 : w.cell? ⟨d, 0, none⟩ = some (.slice na x.1.length nc) := cell_of_cells h.blk rfl
  have hc1 : w.cell? ⟨d, 1, none⟩ = some (.slice fa x.2.length fc) := cell_of_cells h.blk rfl
  have HND : Hid (Nds w na x.1.length (mM x.1) (mK x.1)) := owns_nds h.nds
  obtain ⟨b, o, ha, hcf⟩ := owns_nfl h.fls
  have HC : Hid (∀ i, i < x.2.length → w.cell? ⟨b, o + i * 2, none⟩ = some (.string (x.2.getD i (⟨#[]⟩, ⟨#[]⟩)).1) ∧ w.cell? ⟨b, o + i * 2 + 1, none⟩ = some (.string (x.2.getD i (⟨#[]⟩, ⟨#[]⟩)).2)) := hcf
  obtain ⟨i0, hi, hz0, hz1, hz2⟩ := info_parts Tryd.info42
  have HI : Hid (Tryd.prog.info? 42 = some i0 ∧ i0.zero = some (.agg #[.int .i64 0, .int .i64 0]) ∧ i0.size = 2 ∧ i0.bytes = 16) := ⟨hi, hz0, hz1, hz2⟩
  have HCd : Hid (w.cell? ⟨d, 0, none⟩ = some (.slice na x.1.length nc)) := hc0
  clear hcf hi hz0 hz1 hz2 h hc0
  obtain ⟨N, hN⟩ : ∃ n, n = x.1.length := ⟨_, rfl⟩
  obtain ⟨F, hF⟩ : ∃ n, n = x.2.length := ⟨_, rfl⟩
  have HNF : Hid (x.1.length = N ∧ x.2.length = F) := ⟨hN.symm, hF.symm⟩
  rw [← hN] at HCd HND hx1
  rw [← hF] at hc1 hx2 HC ha
  clear hN hF
  go_enter Tryd.func23, Tryd.ntmps23
  go_wp2
  go_loopw [4, 14] (fun v i wr => ∃ (k : Nat) (va : Option Addr) (vc : Nat), k ≤ F ∧ i = .int .i64 k ∧ v = .slice va k vc ∧ Hid (Below w.heap.size w wr ∧ wr.ownsRow w.heap.size 42 2 (.slice va k vc) k (valsF (jA x) (jB x) k) ∧ ∀ j, j < k → jA x j ≠ -1 ∧ jB x j ≠ -1)) (fun _ i _ => F - (intOf i).toNat)
  case atStart => exact ⟨0, none, 0, Nat.zero_le _, rfl, rfl, hid ⟨Below.refl _ _, World.ownsRow_nil _ _ _ _, fun j hj => by omega⟩⟩
  case round =>
    obtain ⟨k, va, vc, hk, rfl, rfl, HS⟩ := hrel
    by_cases hlt : k < F
    · obtain rfl := ha (by omega)
      have hbw := HS.out.1
      obtain ⟨h1, h2⟩ := HC.out k hlt
      rw [← hbw.cell (p := ⟨b, o + k * 2, none⟩) (World.block_lt_of_cell? _ _ h1)] at h1
      rw [← hbw.cell (p := ⟨b, o + k * 2 + 1, none⟩) (World.block_lt_of_cell? _ _ h2)] at h2
      have hkz : (k : Int) < F := by omega
      have HjA : Hid (jA x k = fnd N (mM x.1) (x.2.getD k (⟨#[]⟩, ⟨#[]⟩)).1) := by show _ = _; unfold jA; rw [HNF.out.1]
      have HjB : Hid (jB x k = fnd N (mM x.1) (x.2.getD k (⟨#[]⟩, ⟨#[]⟩)).2) := by show _ = _; unfold jB; rw [HNF.out.1]
      generalize (x.2.getD k (⟨#[]⟩, ⟨#[]⟩)).1 = sa at *
      generalize (x.2.getD k (⟨#[]⟩, ⟨#[]⟩)).2 = sb at *
      obtain ⟨V, eV⟩ : ∃ v, v = wr.alloc (.cells #[.string sa, .string sb] 79) := ⟨_, rfl⟩
      have HV : Hid (Below wr.heap.size wr V ∧ V.cell? ⟨wr.heap.size, 0, none⟩ = some (.string sa) ∧ V.cell? ⟨wr.heap.size, 1, none⟩ = some (.string sb)) := by subst eV; exact ⟨box_below _ _, cell_of_alloc rfl, cell_of_alloc rfl⟩
      have HVe : Hid (wr.alloc (.cells #[.string sa, .string sb] 79) = V) := eV.symm
      have HBV : Hid (Below w.heap.size w V) := hbw.trans (HV.out.1.mono hbw.size)
      have HOV : Hid (V.ownsRow w.heap.size 42 2 (.slice va k vc) k (valsF (jA x) (jB x) k)) := below_ownsRow HS.out.2.1 HV.out.1
      clear eV hbw
      have k0 : ∀ y : Cls V, y.u.cell? ⟨d, 0, none⟩ = some (.slice na N nc) := fun y => y.cell ((HBV.out.cell (p := ⟨d, 0, none⟩) (World.block_lt_of_cell? _ _ HCd.out)).trans HCd.out)
      have k1 : ∀ y : Cls V, y.u.cell? ⟨wr.heap.size, 0, none⟩ = some (.string sa) := fun y => y.cell HV.out.2.1
      have k2 : ∀ y : Cls V, y.u.cell? ⟨wr.heap.size, 1, none⟩ = some (.string sb) := fun y => y.cell HV.out.2.2
      have CF : Hid (∀ s, ∀ u, Below V.heap.size V u → Calls Tryd.prog 38 #[.slice na N nc, .string s] u fun e w' => e = .returned (.int .i64 (fnd N (mM x.1) s)) ∧ Below V.heap.size V w') := fun s u hu => by
        have hu' : Below w.heap.size w u := HBV.out.trans (hu.mono HBV.out.size)
        refine (find_any na N nc (mM x.1) (mK x.1) s u (by omega) (HND.out.below hu')).mono ?_
        rintro e w' ⟨rfl, hb⟩
        exact ⟨rfl, hu.trans (hb.mono hu.size)⟩
      have gA := fnd_ge N (mM x.1) sa
      have gB := fnd_ge N (mM x.1) sb
      have CFa := CF.out sa
      have CFb := CF.out sb
      rw [← HjA.out] at CFa gA
      rw [← HjB.out] at CFb gB
      have HFa : Hid (∀ u, Below V.heap.size V u → Calls Tryd.prog 38 #[.slice na N nc, .string sa] u fun e w' => e = .returned (.int .i64 (jA x k)) ∧ Below V.heap.size V w') := CFa
      have HFb : Hid (∀ u, Below V.heap.size V u → Calls Tryd.prog 38 #[.slice na N nc, .string sb] u fun e w' => e = .returned (.int .i64 (jB x k)) ∧ Below V.heap.size V w') := CFb
      clear CF CFa CFb HjA HjB
      obtain ⟨A, hA⟩ : ∃ z, z = jA x k := ⟨_, rfl⟩
      obtain ⟨Bk, hB⟩ : ∃ z, z = jB x k := ⟨_, rfl⟩
      rw [← hA] at HFa gA
      rw [← hB] at HFb gB
      have HAB : Hid (A = jA x k ∧ Bk = jB x k) := ⟨hA, hB⟩
      clear hA hB
      have _hne := cls_some V
      go_wp2
      rw [HVe.out]
      refine wp_region_cls (by kernel_rfl) (by kernel_rfl) ?_
      repeat (go_big_quiet_step (first | (go_at_call_of 38 (Value.string sa); exact Cls.calls (HFa.out _ (Cls.h _))) | (go_at_call_of 38 (Value.string sb); exact Cls.calls (HFb.out _ (Cls.h _)))))
      refine wpQuiet_nil ?_
      rintro _ ⟨y, rfl⟩
      have kd := k0 y
      have HBy : Hid (Below w.heap.size w y.u) := HBV.out.trans (y.h.mono HBV.out.size)
      have HOy : Hid (y.u.ownsRow w.heap.size 42 2 (.slice va k vc) k (valsF (jA x) (jB x) k)) := below_ownsRow HOV.out y.h
      have HSj : Hid (∀ j, j < k → jA x j ≠ -1 ∧ jB x j ≠ -1) := HS.out.2.2
      have HSz : Hid (w.heap.size ≤ y.u.heap.size) := HBy.out.size
      generalize y.u = U at *
      clear k0 k1 k2 HFa HFb HOV HBV HV HVe h1 h2 HS HND HC
      by_cases hA : A = -1
      · have HO : Hid (∀ u, JnOut x (.returned (.tuple #[.slice none 0 0, .int .i64 ((N + k + 1 : Nat) : Int)])) u) := fun _ => Or.inl ⟨k, by rw [HNF.out.2]; exact hlt, Or.inl (by rw [← HAB.out.1]; exact hA), HSj.out, by rw [HNF.out.1]⟩
        subst hA
        go_wp2
        go_quiet (fail)
        go_wp2
        go_ret2
        exact ⟨below_drewn HBy.out nq, by have := HO.out (U.drewN nq); simpa using this⟩
      · by_cases hB : Bk = -1
        · have HO : Hid (∀ u, JnOut x (.returned (.tuple #[.slice none 0 0, .int .i64 ((N + k + 1 : Nat) : Int)])) u) := fun _ => Or.inl ⟨k, by rw [HNF.out.2]; exact hlt, Or.inr (by rw [← HAB.out.2]; exact hB), HSj.out, by rw [HNF.out.1]⟩
          have hA' : (A == -1) = false := beq_eq_false_iff_ne.2 hA
          subst hB
          clear hA
          go_wp2
          go_quiet (fail)
          go_wp2
          go_ret2
          exact ⟨below_drewn HBy.out nq, by have := HO.out (U.drewN nq); simpa using this⟩
        · have hA' : (A == -1) = false := beq_eq_false_iff_ne.2 hA
          have hB' : (Bk == -1) = false := beq_eq_false_iff_ne.2 hB
          have HJ : Hid (∀ j, j < k + 1 → jA x j ≠ -1 ∧ jB x j ≠ -1) := fun j hj => by
            by_cases e : j = k
            · subst e; rw [← HAB.out.1, ← HAB.out.2]; exact ⟨hA, hB⟩
            · exact HSj.out j (by omega)
          clear hA hB
          rw [HAB.out.1, HAB.out.2] at *
          go_wp2_with (at_builtin; refine wpList_append_own_at _ rfl _ _ 23 rfl w.heap.size 42 i0 (.agg #[.int .i64 0, .int .i64 0]) 2 16 Tryd.underlying23 HI.out.1 HI.out.2.1 HI.out.2.2.1 HI.out.2.2.2 rfl (by decide) _ _ _ rfl (HOy.out.alloc _) ⟨U.heap.size, 0, none⟩ 1 1 [.int .i64 (jA x k), .int .i64 (jB x k)] rfl rfl (two_cells _ _ _ _) (by intro u hu; simp only [List.mem_cons, List.not_mem_nil, or_false] at hu; rcases hu with rfl | rfl <;> rfl) (by unfold maxLen; omega) (by omega) (by have := HSz.out; simp; omega) ?_; intro v' w4 hown hgrow _ _; obtain ⟨⟨a4, c4, rfl⟩, H4⟩ := fls_step HBy.out HOy.out hown hgrow; clear hown hgrow)
          go_roundw
          case rel => exact ⟨k + 1, a4, c4, by omega, by go_num, rfl, hid ⟨H4.out.1, H4.out.2, HJ.out⟩⟩
          case measure => simp [intOf]; omega
    · obtain rfl : F = k := by omega
      have HF : Hid (Below w.heap.size w wr ∧ JnOut x (.returned (.tuple #[.slice va F vc, .int .i64 0])) wr) := ⟨HS.out.1, Or.inr ⟨by rw [HNF.out.2]; exact HS.out.2.2, va, vc, by rw [HNF.out.2], by rw [HNF.out.2]; exact owns_fls HS.out.2.1⟩⟩
      clear HS
      go_wp2
      go_ret2
      exact HF.out

end Go.Proofs.YtnpdkpbhkjnbhaaDoor
