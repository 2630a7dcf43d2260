/- What came in, opened: a list of numbers, a graph, letters, a word, an automaton. A world and a path that came in, opened. -/
import Derived.ProofKit
import Derived.OpenShut
import Derived.ShutString
import Derived.ChangeOld
import Derived.SizedLaws
import Derived.Deep.Slices
import Derived.Deep.Matrix
import Derived.Lib.SmallJoins
import Derived.Test.YtgahdclbaifcbaaSte
import Derived.Test.YtgahdclbaifcbaaGdwJ
namespace Go.Proofs.Ytgahdclbaifcbaa
open Go.ChangeShapes Go.WideShapes Go.ChangeAt Go.RowKit Go.Deep Go.Joins

theorem Try.cells3 : Try.prog.cellsOf 3 = 1 := by kernel_rfl
theorem Try.cells22 : Try.prog.cellsOf 22 = 1 := by kernel_rfl
theorem Try.cells70 : Try.prog.cellsOf 70 = 1 := by kernel_rfl
theorem Try.bytes3 : Try.prog.bytesOf 3 = 8 := by kernel_rfl
theorem Try.bytes22 : Try.prog.bytesOf 22 = 24 := by kernel_rfl
theorem Try.bytes51 : Try.prog.bytesOf 70 = 8 := by kernel_rfl
theorem reach_eq : reachBytes = 140737488351232 := rfl

theorem weightsAll_mem {H : Type} {P : Program} {e : TypeId} : ∀ {l : List (DataW H)} {d : DataW H}, d ∈ l → ∀ n ∈ d.weights P e, n ∈ DataW.weightsAll P e l
  | d' :: r, d, hd, n, hn => by
    simp only [DataW.weightsAll, List.mem_append]
    rcases List.mem_cons.1 hd with rfl | h
    · exact Or.inl hn
    · exact Or.inr (weightsAll_mem h n hn)

theorem add_none (b o k : Nat) : (⟨b, o, none⟩ : Addr).add k = ⟨b, o + k, none⟩ := by
  unfold Addr.add
  split <;> simp_all

section
variable {H : Type} {enc : TypeId × Value → H} {W : World} {held : Bool}

theorem spot_none {x : Addr} {v : Value} (h : W.cell? (x.add 0) = some v) : x = ⟨x.block, x.off, none⟩ := by
  obtain ⟨b, o, s⟩ := x
  have hs : s = none := by simpa [Addr.add] using World.cell?_spot h
  subst hs
  rfl

/-- A row by its address and its cells. -/
theorem row_of {a : Option Addr} {n : Nat} {Z : Nat → Int} (h : ∀ i, i < n → ∃ x, a = some x ∧ W.cell? (x.add i) = some (.int .i64 (Z i))) : Row W a n Z := by
  by_cases h0 : 0 < n
  · obtain ⟨⟨b, o, s⟩, rfl, hc⟩ := h 0 h0
    have hs : s = none := by simpa [Addr.add] using World.cell?_spot hc
    subst hs
    refine ⟨b, o, fun _ => rfl, fun i hi => ?_⟩
    obtain ⟨x, hx, hci⟩ := h i hi
    cases hx
    rwa [add_none] at hci
  · exact ⟨0, 0, fun hh => absurd hh h0, fun i hi => by omega⟩

theorem wf_u64 {z : Int} (h : (Lit.int .u64 z).wf = true) : 0 ≤ z ∧ z < 18446744073709551616 := by
  have e1 : IntKind.u64.min = 0 := by decide
  have e2 : IntKind.u64.max = 18446744073709551615 := by decide
  simp [Lit.wf] at h
  omega

theorem open_row {fuel : Nat} {v : Value} {y : DataW H × List MemPlace} (h : DataW.trod enc Try.prog W 0 (fun _ => true) held fuel 22 [v] = some y) (hw : ∀ n ∈ y.1.weights Try.prog 22, n ≤ reachBytes) :
    ∃ a n c Z, v = .slice a n c ∧ Row W a n Z ∧ (a = none → n = 0 ∧ c = 0) ∧ n ≤ 140737488355328 ∧ n ≤ c := by
  rcases open_ints Try.underlying22 Try.underlying3 Try.cells3 h with ⟨hcs, hx⟩ | ⟨x, l, cap, zs, hcs, _, hl, hm, hz, hx, hcell, _⟩
  · cases hcs
    exact ⟨none, 0, 0, fun _ => 0, rfl, ⟨0, 0, fun hh => by omega, fun i hi => by omega⟩, fun _ => ⟨rfl, rfl⟩, by omega, Nat.le_refl _⟩
  · cases hcs
    subst hx
    have hz' : zs.length = cap := by simpa using hz
    have hb := hw ((l + (cap - l)) * 8) (by simp [DataW.weights, Try.underlying22, Try.bytes3, lits, hz', Nat.min_eq_left hl])
    rw [reach_eq] at hb
    exact ⟨some x, l, cap, fun i => zs.getD i 0, rfl, row_of (fun i hi => ⟨x, rfl, hcell i (by omega)⟩), fun hh => (by cases hh), by omega, hl⟩

theorem open_gr {fuel : Nat} {v : Value} {y : DataW H × List MemPlace} (h : DataW.trod enc Try.prog W 0 (fun _ => true) held fuel 23 [v] = some y) (hw : ∀ n ∈ y.1.weights Try.prog 23, n ≤ reachBytes) :
    ∃ ga G gc L Z, v = .slice ga G gc ∧ Gr W ga G L Z ∧ G ≤ 140737488355328 ∧ (∀ r, r < G → L r ≤ 140737488355328) ∧ (ga = none → G = 0 ∧ gc = 0) ∧ G ≤ gc ∧ ∀ r, r < G → L r * 8 ≤ 140737488355328 := by
  rcases open_int_rows Try.underlying23 Try.underlying22 Try.underlying3 Try.cells22 Try.cells3 h with ⟨hcs, _⟩ | ⟨a, len, cap, A, L, C, Z, hcs, _, hl, hm, hx, hrows⟩
  · cases hcs
    exact ⟨none, 0, 0, fun _ => 0, fun _ _ => 0, rfl, ⟨0, 0, fun hh => by omega, fun r hr => by omega⟩, by omega, fun r hr => by omega, fun _ => ⟨rfl, rfl⟩, Nat.le_refl _, fun r hr => by omega⟩
  · cases hcs
    subst hx
    have hbig := hw ((len + (cap - len)) * 24) (by simp [DataW.weights, Try.underlying23, Try.bytes22])
    rw [reach_eq] at hbig
    have hw8 : ∀ r, r < len → L r * 8 ≤ 140737488355328 := by
      intro r hr
      obtain ⟨_, h1, _, h3, _, h5, h6⟩ := hrows r (by omega)
      cases hA : A r with
      | none => have := h5 hA; omega
      | some x =>
        have hin := hw ((L r + (C r - L r)) * 8) (by
          simp only [DataW.weights, Try.underlying23, List.mem_cons, List.mem_append]
          refine Or.inr (Or.inl (weightsAll_mem (List.mem_map.2 ⟨r, List.mem_range.2 hr, rfl⟩) _ ?_))
          simp [intRow, hA, lits, DataW.weights, Try.underlying22, Try.bytes3, h3, Nat.min_eq_left h1])
        rw [reach_eq] at hin
        omega
    refine ⟨some a, len, cap, L, fun r i => (Z r).getD i 0, rfl, ?_, by omega, fun r hr => by have := hw8 r hr; omega, fun hh => (by cases hh), hl, hw8⟩
    · by_cases h0 : 0 < len
      · obtain ⟨b, o, s⟩ := a
        have hs : s = none := by simpa [Addr.add] using World.cell?_spot (hrows 0 (by omega)).1
        subst hs
        refine ⟨b, o, fun _ => rfl, fun r hr => ⟨A r, C r, ?_, row_of (fun i hi => ?_)⟩⟩
        · rw [← add_none]; exact (hrows r (by omega)).1
        · obtain ⟨_, h1, _, h3, _, h5, h6⟩ := hrows r (by omega)
          cases hA : A r with
          | none => have := h5 hA; omega
          | some x => exact ⟨x, rfl, (h6 x hA).2 i (by omega)⟩
      · exact ⟨0, 0, fun hh => absurd hh h0, fun r hr => by omega⟩

theorem open_ltrs {fuel : Nat} {v : Value} {y : DataW H × List MemPlace} (h : DataW.trod enc Try.prog W 0 (fun _ => true) held fuel 24 [v] = some y) (hw : ∀ n ∈ y.1.weights Try.prog 24, n ≤ reachBytes) :
    ∃ a n c Z, v = .slice a n c ∧ RowU W a n Z ∧ (a = none → n = 0 ∧ c = 0) ∧ n ≤ 140737488355328 ∧ n ≤ c ∧ ∀ i, i < n → 0 ≤ Z i ∧ Z i < 18446744073709551616 := by
  rcases open_ints Try.underlying24 Try.underlying70 Try.cells70 h with ⟨hcs, hx⟩ | ⟨x, l, cap, zs, hcs, _, hl, hm, hz, hx, hcell, hwz⟩
  · cases hcs
    exact ⟨none, 0, 0, fun _ => 0, rfl, ⟨0, 0, fun hh => by omega, fun i hi => by omega⟩, fun _ => ⟨rfl, rfl⟩, by omega, Nat.le_refl _, fun i hi => by omega⟩
  · cases hcs
    subst hx
    have hz' : zs.length = cap := by simpa using hz
    have hb := hw ((l + (cap - l)) * 8) (by simp [DataW.weights, Try.underlying24, Try.bytes51, lits, hz', Nat.min_eq_left hl])
    rw [reach_eq] at hb
    refine ⟨some x, l, cap, fun i => zs.getD i 0, rfl, ?_, fun hh => (by cases hh), by omega, hl, fun i hi => ?_⟩
    · by_cases h0 : 0 < l
      · have ha := spot_none (by simpa using hcell 0 (by omega))
        rw [ha] at hcell ⊢
        refine ⟨x.block, x.off, fun _ => rfl, fun i hi => ?_⟩
        have := hcell i (by omega)
        rwa [add_none] at this
      · exact ⟨0, 0, fun hh => absurd hh h0, fun i hi => by omega⟩
    · refine wf_u64 (hwz _ ?_)
      show zs.getD i 0 ∈ zs
      rw [List.getD_eq_getElem?_getD, List.getElem?_eq_getElem (by omega)]
      exact List.getElem_mem _

end
end Go.Proofs.Ytgahdclbaifcbaa

namespace Go.Proofs.Ytgahdclbaifcbaa
open Go.ChangeShapes Go.WideShapes Go.ChangeAt Go.RowKit Go.Deep Go.Joins

theorem Try.own : ownKnob Try.prog.godebug = none := by kernel_rfl
theorem Try.laidOut : laidOutB Try.prog = true := by kernel_rfl
theorem Try.cells26 : Try.prog.cellsOf 26 = 4 := by kernel_rfl
theorem Try.cells37 : Try.prog.cellsOf 37 = 2 := by kernel_rfl

theorem weights_le {H : Type} {P : Program} {ts : List TypeId} {ds : List (DataW H)} (h : (DataW.weightsEach P ts ds).all (· ≤ reachBytes) = true) {j : Nat} {t : TypeId} {d : DataW H}
    (ht : ts[j]? = some t) (hd : ds[j]? = some d) : ∀ n ∈ d.weights P t, n ≤ reachBytes :=
  fun _ hn => of_decide_eq_true (List.all_eq_true.1 h _ (DataW.weights_mem_each ht hd _ hn))

theorem array4 {cs : Array Value} (h : cs.size = 4) : ∃ c0 c1 c2 c3, cs = #[c0, c1, c2, c3] := by
  obtain ⟨l⟩ := cs
  match l, h with
  | [a, b, c, d], _ => exact ⟨a, b, c, d, rfl⟩

section
variable {H : Type} {enc : TypeId × Value → H} {W : World} {held : Bool}

theorem open_row8 {fuel : Nat} {v : Value} {y : DataW H × List MemPlace} (h : DataW.trod enc Try.prog W 0 (fun _ => true) held fuel 22 [v] = some y) (hw : ∀ n ∈ y.1.weights Try.prog 22, n ≤ reachBytes) :
    ∃ a n c Z, v = .slice a n c ∧ Row W a n Z ∧ (a = none → n = 0 ∧ c = 0) ∧ n * 8 ≤ 140737488355328 ∧ n ≤ c := by
  rcases open_ints Try.underlying22 Try.underlying3 Try.cells3 h with ⟨hcs, hx⟩ | ⟨x, l, cap, zs, hcs, _, hl, hm, hz, hx, hcell, _⟩
  · cases hcs
    exact ⟨none, 0, 0, fun _ => 0, rfl, ⟨0, 0, fun hh => by omega, fun i hi => by omega⟩, fun _ => ⟨rfl, rfl⟩, by omega, Nat.le_refl _⟩
  · cases hcs
    subst hx
    have hz' : zs.length = cap := by simpa using hz
    have hb := hw ((l + (cap - l)) * 8) (by simp [DataW.weights, Try.underlying22, Try.bytes3, lits, hz', Nat.min_eq_left hl])
    rw [reach_eq] at hb
    exact ⟨some x, l, cap, fun i => zs.getD i 0, rfl, row_of (fun i hi => ⟨x, rfl, hcell i (by omega)⟩), fun hh => (by cases hh), by omega, hl⟩

theorem RowU.same {w : World} {a : Option Addr} {n : Nat} {Z Y : Nat → Int} (h : RowU w a n Z) (e : ∀ i, i < n → Z i = Y i) : RowU w a n Y := by
  obtain ⟨b, o, h1, h2⟩ := h
  exact ⟨b, o, h1, fun i hi => by rw [← e i hi]; exact h2 i hi⟩

set_option maxRecDepth 100000 in
theorem open_world {r : Reach} {b0 : Nat} {v : Value} {d : DataW H} {p : List MemPlace} (hv : Value.okWide Try.prog W r b0 26 v) (h : DataW.Trod enc Try.prog W 0 (fun _ => true) held 26 v d p) (hw : ∀ n ∈ d.weights Try.prog 26, n ≤ reachBytes) :
    ∃ A : Wx, v = A.val ∧ Ww W A := by
  obtain ⟨cs, rfl, hsz⟩ := okWide_struct Try.underlying26 hv
  obtain ⟨c0, c1, c2, c3, rfl⟩ := array4 (hsz.trans Try.cells26)
  obtain ⟨fuel, hf⟩ := h
  obtain ⟨xs, n, _, hx, _, hxl, hel⟩ := DataW.trod_struct Try.underlying26 hf
  match xs, hxl with
  | [y0, y1, y2, y3], _ =>
    have g0 : DataW.trod enc Try.prog W 0 (fun _ => true) held n 22 [c0] = some y0 := hel 0 _ rfl
    have g1 : DataW.trod enc Try.prog W 0 (fun _ => true) held n 23 [c1] = some y1 := hel 1 _ rfl
    have g2 : DataW.trod enc Try.prog W 0 (fun _ => true) held n 24 [c2] = some y2 := hel 2 _ rfl
    have g3 : DataW.trod enc Try.prog W 0 (fun _ => true) held n 23 [c3] = some y3 := hel 3 _ rfl
    simp only [Prod.mk.injEq] at hx
    obtain ⟨rfl, _⟩ := hx
    have hwe : ∀ n, n ∈ y0.1.weights Try.prog 22 ∨ n ∈ y1.1.weights Try.prog 23 ∨ n ∈ y2.1.weights Try.prog 24 ∨ n ∈ y3.1.weights Try.prog 23 → n ≤ reachBytes := by
      intro n hn
      refine hw n ?_
      simp only [DataW.weights, Try.underlying26]
      rcases hn with h | h | h | h
      · exact List.mem_append.2 (Or.inl h)
      · exact List.mem_append.2 (Or.inr (List.mem_append.2 (Or.inl h)))
      · exact List.mem_append.2 (Or.inr (List.mem_append.2 (Or.inr (List.mem_append.2 (Or.inl h)))))
      · exact List.mem_append.2 (Or.inr (List.mem_append.2 (Or.inr (List.mem_append.2 (Or.inr (List.mem_append.2 (Or.inl h)))))))
    obtain ⟨sa, sn, sc, S, rfl, hS, _, hs47, _⟩ := open_row g0 (fun n hn => hwe n (Or.inl hn))
    obtain ⟨na, G, nc, L, Z, rfl, hG, hg47, hl47, _⟩ := open_gr g1 (fun n hn => hwe n (Or.inr (Or.inl hn)))
    obtain ⟨la, M, lc, Lb, rfl, hM, _, hm47, _, hmu⟩ := open_ltrs g2 (fun n hn => hwe n (Or.inr (Or.inr (Or.inl hn))))
    obtain ⟨fa, K, fc, FL, FZ, rfl, hF, hk47, hf47, _⟩ := open_gr g3 (fun n hn => hwe n (Or.inr (Or.inr (Or.inr hn))))
    refine ⟨⟨sa, sn, sc, na, G, nc, la, M, lc, fa, K, fc, S, L, Z, fun i => (Lb i).toNat, FL, FZ⟩, rfl,
      ⟨hS, hG, RowU.same hM fun i hi => ?_, hF, hs47, hg47, hl47, hm47, hk47, hf47, fun i hi => ?_⟩⟩
    · have := hmu i hi; show Lb i = ((Lb i).toNat : Int); omega
    · have := hmu i hi; show (Lb i).toNat < _; omega

theorem open_path {r : Reach} {b0 : Nat} {v : Value} {d : DataW H} {p : List MemPlace} (hv : Value.okWide Try.prog W r b0 37 v) (h : DataW.Trod enc Try.prog W 0 (fun _ => true) held 37 v d p) (hw : ∀ n ∈ d.weights Try.prog 37, n ≤ reachBytes) :
    ∃ pa s pc qa m qc P Q, v = .agg #[.slice pa s pc, .slice qa m qc] ∧ Pw W pa s pc qa m qc P Q := by
  obtain ⟨v0, v1, y0, y1, n, rfl, rfl, _, h0, h1⟩ := open_agg2 Try.underlying37 (by kernel_rfl) Try.cells37 hv h
  obtain ⟨pa, s, pc, P, rfl, hP, hpn, hs8, hpl⟩ := open_row8 h0 (fun n hn => hw n (by simp only [DataW.weights, Try.underlying37]; exact List.mem_append.2 (Or.inl hn)))
  obtain ⟨qa, m, qc, Q, rfl, hQ, hqn, hm8, hql⟩ := open_row8 h1 (fun n hn => hw n (by simp only [DataW.weights, Try.underlying37]; exact List.mem_append.2 (Or.inr (List.mem_append.2 (Or.inl hn)))))
  exact ⟨pa, s, pc, qa, m, qc, P, Q, rfl, ⟨hP, hQ, hpn, hqn, hpl, hql, hs8, hm8⟩⟩
end
end Go.Proofs.Ytgahdclbaifcbaa
