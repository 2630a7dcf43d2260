/- What came in, opened: a list of numbers, a graph, letters, a word, an automaton. -/
import Derived.Test.YtdncjikmknkkpaaDoorRows
import Derived.ProofKit
import Derived.OpenShut
import Derived.ShutString
import Derived.ChangeOld
import Derived.SizedLaws
import Derived.Deep.Slices
import Derived.Deep.Matrix
import Derived.Lib.SmallJoins
import Derived.Test.YtdncjikmknkkpaaDoorSam
import Derived.Test.YtdncjikmknkkpaaDoorOpenA
namespace Go.Proofs.YtdncjikmknkkpaaDoor
namespace Blk
open Go.ChangeShapes Go.WideShapes Go.ChangeAt Go.RowKit Go.Deep Go.Joins

theorem Tryd.own : ownKnob Tryd.prog.godebug = none := by kernel_rfl
theorem Tryd.laidOut : laidOutB Tryd.prog = true := by kernel_rfl
theorem Tryd.cells3 : Tryd.prog.cellsOf 3 = 1 := by kernel_rfl
theorem Tryd.cells22 : Tryd.prog.cellsOf 22 = 1 := by kernel_rfl
theorem Tryd.cells26 : Tryd.prog.cellsOf 26 = 5 := by kernel_rfl
theorem Tryd.cells51 : Tryd.prog.cellsOf 51 = 1 := by kernel_rfl
theorem Tryd.bytes3 : Tryd.prog.bytesOf 3 = 8 := by kernel_rfl
theorem Tryd.bytes22 : Tryd.prog.bytesOf 22 = 24 := by kernel_rfl
theorem Tryd.bytes51 : Tryd.prog.bytesOf 51 = 8 := by kernel_rfl
theorem bulk_pos {H : Type} (d : DataW H) : 1 ≤ Rows.uptoBulk d := by
  unfold Rows.uptoBulk
  split <;> omega

theorem bulk_len {H : Type} : ∀ l : List (DataW H), l.length ≤ Rows.uptoBulkAll l
  | [] => Nat.zero_le _
  | d :: r => by
    have h1 := bulk_pos d
    have h2 := bulk_len r
    simp only [List.length_cons, Rows.uptoBulkAll]
    omega

theorem bulk_slice {H : Type} (elems spare : List (DataW H)) : elems.length + spare.length + 1 ≤ Rows.uptoBulk (.slice elems spare) := by
  have h1 := bulk_len elems
  have h2 := bulk_len spare
  simp only [Rows.uptoBulk]
  omega

theorem bulk_mem {H : Type} {d : DataW H} : ∀ {l : List (DataW H)}, d ∈ l → Rows.uptoBulk d ≤ Rows.uptoBulkAll l
  | d' :: r, h => by
    simp only [Rows.uptoBulkAll]
    rcases List.mem_cons.1 h with rfl | h
    · omega
    · have := bulk_mem h
      omega

theorem reach_eq : reachBytes = 140737488351232 := rfl

theorem weights_le {H : Type} {P : Program} {ts : List TypeId} {ds : List (DataW H)} (h : (DataW.weightsEach P ts ds).all (· ≤ reachBytes) = true) {j : Nat} {t : TypeId} {d : DataW H}
    (ht : ts[j]? = some t) (hd : ds[j]? = some d) : ∀ n ∈ d.weights P t, n ≤ reachBytes :=
  fun _ hn => of_decide_eq_true (List.all_eq_true.1 h _ (DataW.weights_mem_each ht hd _ hn))

theorem weightsAll_mem {H : Type} {P : Program} {e : TypeId} : ∀ {l : List (DataW H)} {d : DataW H}, d ∈ l → ∀ n ∈ d.weights P e, n ∈ DataW.weightsAll P e l
  | d' :: r, d, hd, n, hn => by
    simp only [DataW.weightsAll, List.mem_append]
    rcases List.mem_cons.1 hd with rfl | h
    · exact Or.inl hn
    · exact Or.inr (weightsAll_mem h n hn)

theorem add_none (b o k : Nat) : (⟨b, o, none⟩ : Addr).add k = ⟨b, o + k, none⟩ := by
  unfold Addr.add
  split <;> simp_all

section
variable {H : Type} {enc : TypeId × Value → H} {W : World} {held : Bool}

theorem spot_none {x : Addr} {v : Value} (h : W.cell? (x.add 0) = some v) : x = ⟨x.block, x.off, none⟩ := by
  obtain ⟨b, o, s⟩ := x
  have hs : s = none := by simpa [Addr.add] using World.cell?_spot h
  subst hs
  rfl

/-- A row by its address and its cells. -/
theorem row_of {a : Option Addr} {n : Nat} {Z : Nat → Int} (h : ∀ i, i < n → ∃ x, a = some x ∧ W.cell? (x.add i) = some (.int .i64 (Z i))) : Row W a n Z := by
  by_cases h0 : 0 < n
  · obtain ⟨⟨b, o, s⟩, rfl, hc⟩ := h 0 h0
    have hs : s = none := by simpa [Addr.add] using World.cell?_spot hc
    subst hs
    refine ⟨b, o, fun _ => rfl, fun i hi => ?_⟩
    obtain ⟨x, hx, hci⟩ := h i hi
    cases hx
    rwa [add_none] at hci
  · exact ⟨0, 0, fun hh => absurd hh h0, fun i hi => by omega⟩

theorem wf_u64 {z : Int} (h : (Lit.int .u64 z).wf = true) : 0 ≤ z ∧ z < 18446744073709551616 := by
  have e1 : IntKind.u64.min = 0 := by decide
  have e2 : IntKind.u64.max = 18446744073709551615 := by decide
  simp [Lit.wf] at h
  omega

theorem wf_i64 {z : Int} (h : (Lit.int .i64 z).wf = true) : z ≤ 9223372036854775807 ∧ -9223372036854775808 ≤ z := by
  have e1 : IntKind.i64.min = -9223372036854775808 := by decide
  have e2 : IntKind.i64.max = 9223372036854775807 := by decide
  simp [Lit.wf] at h
  omega

theorem open_row {fuel : Nat} {v : Value} {y : DataW H × List MemPlace} (h : DataW.trod enc Tryd.prog W 0 (fun _ => true) held fuel 22 [v] = some y) (hw : ∀ n ∈ y.1.weights Tryd.prog 22, n ≤ reachBytes) :
    ∃ a n c Z, v = .slice a n c ∧ Row W a n Z ∧ (a = none → n = 0 ∧ c = 0) ∧ n ≤ 17592186043904 ∧ n ≤ Rows.uptoBulk y.1 := by
  rcases open_ints Tryd.underlying22 Tryd.underlying3 Tryd.cells3 h with ⟨hcs, hx⟩ | ⟨x, l, cap, zs, hcs, _, hl, hm, hz, hx, hcell, _⟩
  · cases hcs
    exact ⟨none, 0, 0, fun _ => 0, rfl, ⟨0, 0, fun hh => by omega, fun i hi => by omega⟩, fun _ => ⟨rfl, rfl⟩, by omega, Nat.zero_le _⟩
  · cases hcs
    subst hx
    have hz' : zs.length = cap := by simpa using hz
    have hb := hw ((l + (cap - l)) * 8) (by simp [DataW.weights, Tryd.underlying22, Tryd.bytes3, lits, hz', Nat.min_eq_left hl])
    rw [reach_eq] at hb
    have hbk := bulk_slice (lits (H := H) .i64 (zs.take l)) (lits .i64 (zs.drop l))
    simp only [lits, List.length_map, List.length_take, List.length_drop, hz', Nat.min_eq_left hl] at hbk
    exact ⟨some x, l, cap, fun i => zs.getD i 0, rfl, row_of (fun i hi => ⟨x, rfl, hcell i (by omega)⟩), fun hh => (by cases hh), by omega, by simp only [lits]; omega⟩

theorem open_gr {fuel : Nat} {v : Value} {y : DataW H × List MemPlace} (h : DataW.trod enc Tryd.prog W 0 (fun _ => true) held fuel 23 [v] = some y) (hw : ∀ n ∈ y.1.weights Tryd.prog 23, n ≤ reachBytes) :
    ∃ ga G gc L Z, v = .slice ga G gc ∧ Gr W ga G L Z ∧ G * 24 + 24 ≤ 140737488355328 ∧ (∀ r, r < G → L r ≤ 17592186043904) ∧ ∀ r, r < G → L r ≤ Rows.uptoBulk y.1 := by
  rcases open_int_rows Tryd.underlying23 Tryd.underlying22 Tryd.underlying3 Tryd.cells22 Tryd.cells3 h with ⟨hcs, _⟩ | ⟨a, len, cap, A, L, C, Z, hcs, _, hl, hm, hx, hrows⟩
  · cases hcs
    exact ⟨none, 0, 0, fun _ => 0, fun _ _ => 0, rfl, ⟨0, 0, fun hh => by omega, fun r hr => by omega⟩, by omega, fun r hr => by omega, fun r hr => by omega⟩
  · cases hcs
    subst hx
    have hbig := hw ((len + (cap - len)) * 24) (by simp [DataW.weights, Tryd.underlying23, Tryd.bytes22])
    rw [reach_eq] at hbig
    have hw8 : ∀ r, r < len → L r * 8 ≤ 140737488351232 ∧ L r ≤ Rows.uptoBulk (DataW.slice ((List.range len).map fun r => intRow (H := H) .i64 (A r) (L r) (Z r)) ((List.range (cap - len)).map fun r => intRow .i64 (A (len + r)) (L (len + r)) (Z (len + r)))) := by
      intro r hr
      obtain ⟨_, h1, _, h3, _, h5, h6⟩ := hrows r (by omega)
      cases hA : A r with
      | none => have := h5 hA; omega
      | some x =>
        have hin := hw ((L r + (C r - L r)) * 8) (by
          simp only [DataW.weights, Tryd.underlying23, List.mem_cons, List.mem_append]
          refine Or.inr (Or.inl (weightsAll_mem (List.mem_map.2 ⟨r, List.mem_range.2 hr, rfl⟩) _ ?_))
          simp [intRow, hA, lits, DataW.weights, Tryd.underlying22, Tryd.bytes3, h3, Nat.min_eq_left h1])
        rw [reach_eq] at hin
        have hm2 : Rows.uptoBulk (intRow (H := H) .i64 (A r) (L r) (Z r)) ≤ Rows.uptoBulkAll ((List.range len).map fun r => intRow (H := H) .i64 (A r) (L r) (Z r)) := bulk_mem (List.mem_map.2 ⟨r, List.mem_range.2 hr, rfl⟩)
        have hs2 : L r ≤ Rows.uptoBulk (intRow (H := H) .i64 (A r) (L r) (Z r)) := by
          simp only [intRow, hA]
          have hbk := bulk_slice (lits (H := H) .i64 ((Z r).take (L r))) (lits .i64 ((Z r).drop (L r)))
          simp only [lits, List.length_map, List.length_take, List.length_drop, h3, Nat.min_eq_left h1] at hbk ⊢
          omega
        refine ⟨by omega, ?_⟩
        simp only [Rows.uptoBulk]
        omega
    refine ⟨some a, len, cap, L, fun r i => (Z r).getD i 0, rfl, ?_, by omega, fun r hr => by have := (hw8 r hr).1; omega, fun r hr => (hw8 r hr).2⟩
    · by_cases h0 : 0 < len
      · obtain ⟨b, o, s⟩ := a
        have hs : s = none := by simpa [Addr.add] using World.cell?_spot (hrows 0 (by omega)).1
        subst hs
        refine ⟨b, o, fun _ => rfl, fun r hr => ⟨A r, C r, ?_, row_of (fun i hi => ?_)⟩⟩
        · rw [← add_none]; exact (hrows r (by omega)).1
        · obtain ⟨_, h1, _, h3, _, h5, h6⟩ := hrows r (by omega)
          cases hA : A r with
          | none => have := h5 hA; omega
          | some x => exact ⟨x, rfl, (h6 x hA).2 i (by omega)⟩
      · exact ⟨0, 0, fun hh => absurd hh h0, fun r hr => by omega⟩

theorem open_ltrs {fuel : Nat} {v : Value} {y : DataW H × List MemPlace} (h : DataW.trod enc Tryd.prog W 0 (fun _ => true) held fuel 24 [v] = some y) (hw : ∀ n ∈ y.1.weights Tryd.prog 24, n ≤ reachBytes) :
    ∃ a n c Z, v = .slice a n c ∧ RowU W a n Z ∧ (a = none → n = 0 ∧ c = 0) ∧ n ≤ 17592186043904 ∧ n ≤ c ∧ ∀ i, i < n → 0 ≤ Z i ∧ Z i < 18446744073709551616 := by
  rcases open_ints Tryd.underlying24 Tryd.underlying51 Tryd.cells51 h with ⟨hcs, hx⟩ | ⟨x, l, cap, zs, hcs, _, hl, hm, hz, hx, hcell, hwz⟩
  · cases hcs
    exact ⟨none, 0, 0, fun _ => 0, rfl, ⟨0, 0, fun hh => by omega, fun i hi => by omega⟩, fun _ => ⟨rfl, rfl⟩, by omega, Nat.le_refl _, fun i hi => by omega⟩
  · cases hcs
    subst hx
    have hz' : zs.length = cap := by simpa using hz
    have hb := hw ((l + (cap - l)) * 8) (by simp [DataW.weights, Tryd.underlying24, Tryd.bytes51, lits, hz', Nat.min_eq_left hl])
    rw [reach_eq] at hb
    refine ⟨some x, l, cap, fun i => zs.getD i 0, rfl, ?_, fun hh => (by cases hh), by omega, hl, fun i hi => ?_⟩
    · by_cases h0 : 0 < l
      · have ha := spot_none (by simpa using hcell 0 (by omega))
        rw [ha] at hcell ⊢
        refine ⟨x.block, x.off, fun _ => rfl, fun i hi => ?_⟩
        have := hcell i (by omega)
        rwa [add_none] at this
      · exact ⟨0, 0, fun hh => absurd hh h0, fun i hi => by omega⟩
    · refine wf_u64 (hwz _ ?_)
      show zs.getD i 0 ∈ zs
      rw [List.getD_eq_getElem?_getD, List.getElem?_eq_getElem (by omega)]
      exact List.getElem_mem _

theorem RowU.same {w : World} {a : Option Addr} {n : Nat} {Z Y : Nat → Int} (h : RowU w a n Z) (e : ∀ i, i < n → Z i = Y i) : RowU w a n Y := by
  obtain ⟨b, o, h1, h2⟩ := h
  exact ⟨b, o, h1, fun i hi => by rw [← e i hi]; exact h2 i hi⟩

theorem array5 {cs : Array Value} (h : cs.size = 5) : ∃ c0 c1 c2 c3 c4, cs = #[c0, c1, c2, c3, c4] := by
  obtain ⟨l⟩ := cs
  match l, h with
  | [a, b, c, d, e], _ => exact ⟨a, b, c, d, e, rfl⟩

set_option maxRecDepth 100000 in
theorem open_aut {r : Reach} {b0 : Nat} {v : Value} {d : DataW H} {p : List MemPlace} (hv : Value.okWide Tryd.prog W r b0 26 v) (h : DataW.Trod enc Tryd.prog W 0 (fun _ => true) held 26 v d p) (hw : ∀ n ∈ d.weights Tryd.prog 26, n ≤ reachBytes) :
    ∃ A : Ax, v = A.val ∧ Aw W A ∧ A.sn ≤ Rows.uptoBulk d ∧ ∀ r, r < A.G → A.L r ≤ Rows.uptoBulk d := by
  obtain ⟨cs, rfl, hsz⟩ := okWide_struct Tryd.underlying26 hv
  obtain ⟨c0, c1, c2, c3, c4, rfl⟩ := array5 (hsz.trans Tryd.cells26)
  obtain ⟨fuel, hf⟩ := h
  obtain ⟨xs, n, _, hx, _, hxl, hel⟩ := DataW.trod_struct Tryd.underlying26 hf
  match xs, hxl with
  | [y0, y1, y2, y3, y4], _ =>
    have g0 : DataW.trod enc Tryd.prog W 0 (fun _ => true) held n 22 [c0] = some y0 := hel 0 _ rfl
    have g1 : DataW.trod enc Tryd.prog W 0 (fun _ => true) held n 23 [c1] = some y1 := hel 1 _ rfl
    have g2 : DataW.trod enc Tryd.prog W 0 (fun _ => true) held n 24 [c2] = some y2 := hel 2 _ rfl
    have g3 : DataW.trod enc Tryd.prog W 0 (fun _ => true) held n 24 [c3] = some y3 := hel 3 _ rfl
    have g4 : DataW.trod enc Tryd.prog W 0 (fun _ => true) held n 23 [c4] = some y4 := hel 4 _ rfl
    simp only [Prod.mk.injEq] at hx
    obtain ⟨rfl, _⟩ := hx
    have hwe : ∀ n, n ∈ y0.1.weights Tryd.prog 22 ∨ n ∈ y1.1.weights Tryd.prog 23 ∨ n ∈ y2.1.weights Tryd.prog 24 ∨ n ∈ y3.1.weights Tryd.prog 24 ∨ n ∈ y4.1.weights Tryd.prog 23 → n ≤ reachBytes := by
      intro n hn
      refine hw n ?_
      simp only [DataW.weights, Tryd.underlying26]
      rcases hn with h | h | h | h | h
      · exact List.mem_append.2 (Or.inl h)
      · exact List.mem_append.2 (Or.inr (List.mem_append.2 (Or.inl h)))
      · exact List.mem_append.2 (Or.inr (List.mem_append.2 (Or.inr (List.mem_append.2 (Or.inl h)))))
      · exact List.mem_append.2 (Or.inr (List.mem_append.2 (Or.inr (List.mem_append.2 (Or.inr (List.mem_append.2 (Or.inl h)))))))
      · exact List.mem_append.2 (Or.inr (List.mem_append.2 (Or.inr (List.mem_append.2 (Or.inr (List.mem_append.2 (Or.inr (List.mem_append.2 (Or.inl h)))))))))
    obtain ⟨sa, sn, sc, S, rfl, hS, hsn, hs47, hsb⟩ := open_row g0 (fun n hn => hwe n (Or.inl hn))
    obtain ⟨na, G, nc, L, Z, rfl, hG, hg47, hl47, hlb⟩ := open_gr g1 (fun n hn => hwe n (Or.inr (Or.inl hn)))
    obtain ⟨ma, M, mc, Mu, rfl, hM, hmn, hm47, _, hmu⟩ := open_ltrs g2 (fun n hn => hwe n (Or.inr (Or.inr (Or.inl hn))))
    obtain ⟨oa, O, oc, No, rfl, hO, hon, ho47, _, hno⟩ := open_ltrs g3 (fun n hn => hwe n (Or.inr (Or.inr (Or.inr (Or.inl hn)))))
    obtain ⟨fa, K, fc, FL, FZ, rfl, hF, hk47, hf47, _⟩ := open_gr g4 (fun n hn => hwe n (Or.inr (Or.inr (Or.inr (Or.inr hn)))))
    refine ⟨⟨sa, sn, sc, na, G, nc, ma, M, mc, oa, O, oc, fa, K, fc, S, L, Z, fun i => (Mu i).toNat, fun i => (No i).toNat, FL, FZ⟩, rfl,
      ⟨hS, hG, RowU.same hM fun i hi => ?_, RowU.same hO fun i hi => ?_, hF, by show sn ≤ _; omega, by show G ≤ _; omega, fun r hr => by have := hl47 r hr; show L r ≤ _; omega, by show M ≤ _; omega, by show O ≤ _; omega, by show K ≤ _; omega, fun r hr => by have := hf47 r hr; show FL r ≤ _; omega, fun i hi => ?_, fun i hi => ?_⟩, ?_, fun r hr => ?_⟩
    · have := hmu i hi; show Mu i = ((Mu i).toNat : Int); omega
    · have := hno i hi; show No i = ((No i).toNat : Int); omega
    · have := hmu i hi; show (Mu i).toNat < _; omega
    · have := hno i hi; show (No i).toNat < _; omega
    · show sn ≤ _; simp only [Rows.uptoBulk, Rows.uptoBulkAll, List.map]; omega
    · have := hlb r hr; show L r ≤ _; simp only [Rows.uptoBulk, Rows.uptoBulkAll, List.map]; omega

end
end Blk
end Go.Proofs.YtdncjikmknkkpaaDoor

