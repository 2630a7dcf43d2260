/- The reader's words: word, leaf, wrong. -/
import Derived.Test.YtgpjlgffmlkkoaaDoorRdr
import Derived.Test.YtgpjlgffmlkkoaaDoorPrn
namespace Go.Proofs.YtgpjlgffmlkkoaaDoor
open Go.RowKit

theorem results_cell_tmp1 {P : Program} {fn : Func} {p u : Tmp} {ty : TypeId} (h : fn.results = #[.cell p ty, .tmp u]) (tmps : Array Value) (w : World) (g : Nat) (t : TypeId) (cs : Array Value) (fr : Nat × Nat) (d : TypeDesc)
    (hp : tmps.getD p undef = .pointer (some ⟨g, 0, none⟩)) (hg : w.heap[g]? = some (.cells cs t fr))
    (hu : P.underlying ty = some d) (hd : (match d with | .struct _ | .array _ _ => true | _ => false) = true) (hi : (P.info? ty).map (·.size) = some cs.size) :
    (results fn tmps).run P w = .ok (.tuple #[.agg cs, tmps.getD u undef]) w := by
  have hp' : tmps[p]?.getD undef = .pointer (some ⟨g, 0, none⟩) := by simpa using hp
  simp [results, h, hp', asAddr, run_loadVar_row w g t ty cs fr d hg hu hd hi]

theorem wrd_lft (S : ByteArray) : ∀ (d p : Nat), p + d ≤ S.size → (∀ j (h : j < S.size), p ≤ j → j < p + d → isL S[j] = true) → (∀ h : p + d < S.size, isL S[p + d] = false) → wrd (lft S p) = (lft S p).take d
  | 0, p, hp, _, he => by
    by_cases h : p < S.size
    · have := he h
      rw [lft_cons h]
      simp only [wrd, List.takeWhile_cons, List.take_zero]
      rw [if_neg (by simpa using this)]
    · rw [lft_nil h]; rfl
  | d + 1, p, hp, hl, he => by
    have h : p < S.size := by omega
    have ih := wrd_lft S d (p + 1) (by omega) (fun j hj h1 h2 => hl j hj (by omega) (by omega)) (fun hh => by have := he (by omega); simpa only [Nat.add_assoc, Nat.add_comm 1 d] using this)
    rw [lft_cons h]
    simp only [wrd, List.takeWhile_cons, List.take_succ_cons]
    rw [if_pos (hl p h (Nat.le_refl _) (by omega))]
    exact congrArg _ ih

theorem ext_byt (S : ByteArray) (p k : Nat) : S.extract p k = byt ((lft S p).take (k - p)) := by
  apply ByteArray.ext
  rw [ByteArray.data_extract]
  apply Array.toList_inj.1
  rw [Array.toList_extract]
  simp [byt, lft, List.extract_eq_take_drop]

theorem isL_iff (c : UInt8) : isL c = decide (97 ≤ (c.toNat : Int) ∧ (c.toNat : Int) ≤ 122) := by
  unfold isL
  congr 1
  exact propext ⟨fun h => by omega, fun h => by omega⟩

set_option maxHeartbeats 4000000 in
theorem word0_any (b : Nat) (S : ByteArray) (na : Option Addr) (N nc : Nat) (p : Nat) (o : Int) (w : World) (h : Rd w b S na N nc p o) (hp : p ≤ S.size) (hS : S.size ≤ 1000) :
    Calls Tryd.prog 50 #[.pointer (some ⟨b, 0, none⟩)] w fun e w' => e = .returned (.string (byt (wrd (lft S p)))) ∧ ∃ q, w' = w.drewN q := by
  have c0 := h.c0
  have c2 := h.c2
  clear h
  have CL : Hid (∀ c : UInt8, Calls Tryd.prog 65 #[.int .u8 c.toNat] w fun e w' => e = .returned (.bool (isL c)) ∧ w' = w) := fun c => (isLetter_any _ w).mono fun e w' hh => ⟨by rw [hh.1, isL_iff], hh.2⟩
  go_enter Tryd.func50, Tryd.ntmps50
  go_wp2
  go_loop [3] (fun i => ∃ k : Nat, p ≤ k ∧ k ≤ S.size ∧ i = .int .i64 k ∧ Hid (∀ j (h : j < S.size), p ≤ j → j < k → isL S[j] = true)) (fun i => S.size - (intOf i).toNat)
  case atStart => exact ⟨p, Nat.le_refl _, hp, rfl, hid (fun j _ h1 h2 => by omega)⟩
  case round =>
    obtain ⟨k, hk1, hk2, rfl, HK⟩ := hrel
    have hw1 : IntKind.i64.wrap (p : Int) = p := by rw [IntKind.wrap_i64] <;> omega
    have hw2 : IntKind.i64.wrap (k : Int) = k := by rw [IntKind.wrap_i64] <;> omega
    have hpk : (p : Int) ≤ k := by omega
    have hks : (k : Int) ≤ S.size := by omega
    have hp0 : (0 : Int) ≤ p := by omega
    by_cases hlt : k < S.size
    · have hkz : (k : Int) < S.size := by omega
      have hk0 : (0 : Int) ≤ k := by omega
      have dk : decide ((k : Int) < S.size) = true := decide_eq_true hkz
      have C := hid (CL.out S[k])
      cases hL : isL S[k]
      · rw [hL] at C
        have E : Hid (byt (wrd (lft S p)) = S.extract p k) := hid <| by
          rw [ext_byt S p k, wrd_lft S (k - p) p (by omega) (fun j hj h1 h2 => HK.out j hj h1 (by omega)) (fun hh => by
            have e : p + (k - p) = k := by omega
            simp only [e]
            exact hL)]
        clear hL
        go_wp2_with fail
        refine C.out.mono ?_
        rintro e w' ⟨rfl, rfl⟩
        clear C
        go_wp2
        go_quiet (fail)
        go_wp2
        go_ret
        exact ⟨by rw [E.out]; rfl, _, rfl⟩
      · rw [hL] at C
        have HN : Hid (∀ j (h : j < S.size), p ≤ j → j < k + 1 → isL S[j] = true) := fun j hj h1 h2 => by
          by_cases e : j = k
          · subst e; exact hL
          · exact HK.out j hj h1 (by omega)
        clear hL
        go_wp2_with fail
        refine C.out.mono ?_
        rintro e w' ⟨rfl, rfl⟩
        clear C
        go_wp2
        go_round
        case rel => exact ⟨k + 1, by omega, by omega, by go_num, HN⟩
        case measure => simp [intOf]; omega
    · have dk : decide ((k : Int) < S.size) = false := decide_eq_false (by omega)
      have E : Hid (byt (wrd (lft S p)) = S.extract p k) := hid <| by
        rw [ext_byt S p k, wrd_lft S (k - p) p (by omega) (fun j hj h1 h2 => HK.out j hj h1 (by omega)) (fun hh => by omega)]
      go_wp2
      go_quiet (fail)
      go_wp2
      go_ret
      exact ⟨by rw [E.out]; rfl, _, rfl⟩

/-- What leaf answers: Kind, N, whether there is one. -/
def lfV (N : Nat) (M : Nat → ByteArray) (l : List UInt8) : Int × Int × Bool :=
  if l = [116, 114, 117, 101] then (1, 0, true) else if l = [102, 97, 108, 115, 101] then (2, 0, true) else (3, atV N M (byt l), atB N M (byt l))

theorem lf_V (N : Nat) (M : Nat → ByteArray) (l : List UInt8) : lf N M l = if (lfV N M l).2.2 = true then some (nd (lfV N M l).1 (lfV N M l).2.1) else none := by
  unfold lf lfV
  split
  · rfl
  · split
    · rfl
    · rfl

theorem byt_toList (l : List UInt8) : (byt l).toList = l := by rw [ByteArray.toList_eq, data_byt]

/-- Three cells of a formula lie in block x, and may be written. -/
def Tri (w : World) (x : Nat) (u v z : Value) : Prop := w.heap[x]? = some (.cells #[u, v, z] 24 (0, 0))

theorem tri_cells {w : World} {x : Nat} {u v z : Value} (h : Tri w x u v z) : (w.cell? ⟨x, 0, none⟩ = some u ∧ w.cell? ⟨x, 1, none⟩ = some v ∧ w.cell? ⟨x, 2, none⟩ = some z) ∧ w.frozen? ⟨x, 0, none⟩ = false ∧ w.frozen? ⟨x, 1, none⟩ = false ∧ w.frozen? ⟨x, 2, none⟩ = false := by
  have e : w.heap[x]? = some (.cells #[u, v, z] 24 (0, 0)) := h
  refine ⟨⟨cell_of_cells e rfl, cell_of_cells e rfl, cell_of_cells e rfl⟩, ?_⟩
  simp [World.frozen?, e]

theorem tri_new (w : World) (u v z : Value) : Tri (w.alloc (.cells #[u, v, z] 24)) w.heap.size u v z := Go.Deep.blk_alloc_new _ _
theorem Tri.below {w w' : World} {x : Nat} {u v z : Value} {B : Nat} (h : Tri w x u v z) (hb : Below B w w') (hx : x < B) : Tri w' x u v z := (hb.block x hx).trans h
theorem Tri.but {w w' : World} {x b : Nat} {u v z : Value} (h : Tri w x u v z) (hb : But b w w') (hx : x ≠ b) : Tri w' x u v z := (hb.block x (Array.getElem?_eq_some_iff.1 h).1 hx).trans h
theorem Tri.lt {w : World} {x : Nat} {u v z : Value} (h : Tri w x u v z) : x < w.heap.size := (Array.getElem?_eq_some_iff.1 h).1

theorem tri_set {w : World} {x : Nat} {u v z : Value} (h : Tri w x u v z) (a b c : Value) : Tri (((w.setCell ⟨x, 0, none⟩ a).setCell ⟨x, 1, none⟩ b).setCell ⟨x, 2, none⟩ c) x a b c := by
  have e : w.heap[x]? = some (.cells #[u, v, z] 24 (0, 0)) := h
  unfold Tri World.setCell
  simp only [Array.getElem?_modify, if_true, e, Option.map_some]
  rfl

theorem below_tri {B : Nat} {w w' : World} {x : Nat} (h : Below B w w') (hx : B ≤ x) (a b c : Value) : Below B w (((w'.setCell ⟨x, 0, none⟩ a).setCell ⟨x, 1, none⟩ b).setCell ⟨x, 2, none⟩ c) :=
  ((h.setCell (p := ⟨x, 0, none⟩) hx _).setCell (p := ⟨x, 1, none⟩) hx _).setCell (p := ⟨x, 2, none⟩) hx _

set_option maxHeartbeats 4000000 in
theorem leaf_any {w0 : World} {na : Option Addr} {N nc : Nat} {M : Nat → ByteArray} (hS : Sta w0 na N nc M) (b : Nat) (S : ByteArray) (p o : Int) (l : List UInt8) (w : World) (h : Rd w b S na N nc p o) (hB : Below w0.heap.size w0 w) :
    Calls Tryd.prog 51 #[.pointer (some ⟨b, 0, none⟩), .string (byt l)] w fun e w' => e = .returned (.tuple #[.agg #[.int .i64 (lfV N M l).1, .int .i64 (lfV N M l).2.1, .slice none 0 0], .bool (lfV N M l).2.2]) ∧ Below w.heap.size w w' := by
  have hsg := hS.sg.below hB (by have := hS.four; omega)
  have s1 := hsg 1 (by omega)
  have s2 := hsg 2 (by omega)
  have c1 := h.c1
  have hlt := h.lt
  have h0w : 0 < w.heap.size := by omega
  have e1 : (sg 1).toList = [116, 114, 117, 101] := by rw [ByteArray.toList_eq]; rfl
  have e2 : (sg 2).toList = [102, 97, 108, 115, 101] := by rw [ByteArray.toList_eq]; rfl
  have eb := byt_toList l
  obtain ⟨w1, hw1⟩ : ∃ y, y = w.alloc (.cells #[.int .i64 0, .int .i64 0, .slice none 0 0] 24) := ⟨_, rfl⟩
  have hB1 : Below w.heap.size w w1 := by rw [hw1]; exact box_below _ _
  have hT1 : Tri w1 w.heap.size (.int .i64 0) (.int .i64 0) (.slice none 0 0) := by rw [hw1]; exact tri_new _ _ _ _
  have HT := hid hT1
  have HB1 := hid hB1
  have HE := hid hw1
  have CP1 : Hid (Calls Tryd.prog 49 #[.int .i64 1, .slice none 0 0] w1 fun e w' => e = .returned (.agg #[.int .i64 1, .int .i64 0, .slice none 0 0]) ∧ Below w1.heap.size w1 w') := part_any 1 none 0 0 w1
  have CP2 : Hid (Calls Tryd.prog 49 #[.int .i64 2, .slice none 0 0] w1 fun e w' => e = .returned (.agg #[.int .i64 2, .int .i64 0, .slice none 0 0]) ∧ Below w1.heap.size w1 w') := part_any 2 none 0 0 w1
  have CA : Hid (Calls Tryd.prog 61 #[.slice na N nc, .string (byt l)] w1 fun e w' => e = .returned (.tuple #[.int .i64 (atV N M (byt l)), .bool (atB N M (byt l))]) ∧ w' = w1) :=
    atom_any na N nc M (byt l) w1 (by have := hS.n1; have := hS.n2; omega) hS.n1 hS.n2 (hS.nms.below (hB.trans (hB1.mono hB.size)))
  clear h hsg hS hB hB1 hw1
  by_cases h1 : l = [116, 114, 117, 101]
  · have E : Hid (lfV N M l = (1, 0, true)) := hid <| by simp [lfV, h1]
    have q1 : ((byt l).toList == (sg 1).toList) = true := by rw [eb, e1, h1]; rfl
    generalize byt l = bl at *
    generalize sg 1 = g1 at *
    clear h1 e1 e2 eb hT1
    go_enter Tryd.func51, Tryd.ntmps51
    go_wp2_with fail
    rw [← HE.out]
    refine CP1.out.mono ?_
    rintro e w2 ⟨rfl, hb2⟩
    have hT2 := HT.out.below hb2 HT.out.lt
    obtain ⟨⟨d0, d1, d2⟩, f0, f1, f2⟩ := tri_cells hT2
    have HB2 := hid (HB1.out.trans (hb2.mono HB1.out.size))
    have HT2 := hid hT2
    clear hT2 CP1 CP2 CA hb2
    go_wp2
    (try simp only [Exit.inBlock, Exit.then])
    refine bodyPost_ret (results_cell_tmp1 rfl _ _ w.heap.size 24 #[.int .i64 1, .int .i64 0, .slice none 0 0] (0, 0) _ rfl (tri_set HT2.out _ _ _) Tryd.underlying24 rfl (by kernel_rfl)) rfl ?_
    rw [E.out]
    exact ⟨rfl, below_tri HB2.out (Nat.le_refl _) _ _ _⟩
  have q1 : ((byt l).toList == (sg 1).toList) = false := by rw [eb, e1]; exact beq_eq_false_iff_ne.2 h1
  by_cases h2 : l = [102, 97, 108, 115, 101]
  · have E : Hid (lfV N M l = (2, 0, true)) := hid <| by simp [lfV, h2]
    have q2 : ((byt l).toList == (sg 2).toList) = true := by rw [eb, e2, h2]; rfl
    generalize byt l = bl at *
    generalize sg 1 = g1 at *
    generalize sg 2 = g2 at *
    clear h1 h2 e1 e2 eb hT1
    go_enter Tryd.func51, Tryd.ntmps51
    go_wp2_with fail
    rw [← HE.out]
    refine CP2.out.mono ?_
    rintro e w2 ⟨rfl, hb2⟩
    have hT2 := HT.out.below hb2 HT.out.lt
    obtain ⟨⟨d0, d1, d2⟩, f0, f1, f2⟩ := tri_cells hT2
    have HB2 := hid (HB1.out.trans (hb2.mono HB1.out.size))
    have HT2 := hid hT2
    clear hT2 CP1 CP2 CA hb2
    go_wp2
    (try simp only [Exit.inBlock, Exit.then])
    refine bodyPost_ret (results_cell_tmp1 rfl _ _ w.heap.size 24 #[.int .i64 2, .int .i64 0, .slice none 0 0] (0, 0) _ rfl (tri_set HT2.out _ _ _) Tryd.underlying24 rfl (by kernel_rfl)) rfl ?_
    rw [E.out]
    exact ⟨rfl, below_tri HB2.out (Nat.le_refl _) _ _ _⟩
  · have q2 : ((byt l).toList == (sg 2).toList) = false := by rw [eb, e2]; exact beq_eq_false_iff_ne.2 h2
    have E : Hid (lfV N M l = (3, atV N M (byt l), atB N M (byt l))) := hid <| by simp [lfV, h1, h2]
    generalize atV N M (byt l) = av at *
    generalize atB N M (byt l) = ab at *
    generalize byt l = bl at *
    generalize sg 1 = g1 at *
    generalize sg 2 = g2 at *
    clear h1 h2 e1 e2 eb
    obtain ⟨⟨d0, d1, d2⟩, f0, f1, f2⟩ := tri_cells hT1
    have HB2 := HB1
    have HT2 := HT
    clear hT1 CP1 CP2
    go_enter Tryd.func51, Tryd.ntmps51
    go_wp2_with fail
    rw [← HE.out]
    refine CA.out.mono ?_
    rintro e w' ⟨rfl, rfl⟩
    clear CA
    go_wp2
    (try simp only [Exit.inBlock, Exit.then])
    refine bodyPost_ret (results_cell_tmp1 rfl _ _ w.heap.size 24 #[.int .i64 3, .int .i64 av, .slice none 0 0] (0, 0) _ rfl (tri_set HT2.out _ _ _) Tryd.underlying24 rfl (by kernel_rfl)) rfl ?_
    rw [E.out]
    exact ⟨rfl, below_tri HB2.out (Nat.le_refl _) _ _ _⟩

/-- The sentinels of the package. -/
structure Ers (w : World) (V1 V2 V3 V5 : Value) : Prop where
  e1 : w.cell? ⟨1, 0, none⟩ = some V1
  e2 : w.cell? ⟨2, 0, none⟩ = some V2
  e3 : w.cell? ⟨3, 0, none⟩ = some V3
  e5 : w.cell? ⟨5, 0, none⟩ = some V5
  s1 : ∃ a, V1 = .iface 139 (.pointer (some a))
  s2 : ∃ a, V2 = .iface 139 (.pointer (some a))
  s3 : ∃ a, V3 = .iface 139 (.pointer (some a))
  s5 : ∃ a, V5 = .iface 139 (.pointer (some a))

theorem Ers.below {w w' : World} {V1 V2 V3 V5 : Value} (h : Ers w V1 V2 V3 V5) (hb : Below w.heap.size w w') : Ers w' V1 V2 V3 V5 :=
  ⟨below_cell hb (Nat.le_refl _) h.e1, below_cell hb (Nat.le_refl _) h.e2, below_cell hb (Nat.le_refl _) h.e3, below_cell hb (Nat.le_refl _) h.e5, h.s1, h.s2, h.s3, h.s5⟩

/-- The error of a number, seen there. -/
def erV (V1 V2 V3 V5 : Value) (c : Int) (p : Int) : Value := .iface 72 (.agg #[if c = 2 then V1 else if c = 5 then V2 else if c = 4 then V3 else V5, .int .i64 p])

set_option maxHeartbeats 4000000 in
theorem wrong_any {w0 : World} {na : Option Addr} {N nc : Nat} {M : Nat → ByteArray} {V1 V2 V3 V5 : Value} (hS : Sta w0 na N nc M) (hE : Ers w0 V1 V2 V3 V5) (b : Nat) (S : ByteArray) (p : Nat) (o : Int) (w : World) (h : Rd w b S na N nc p o) (hB : Below w0.heap.size w0 w)
    (hp : p ≤ S.size) (hSz : S.size ≤ 1000) :
    Calls Tryd.prog 36 #[.pointer (some ⟨b, 0, none⟩)] w fun e w' => e = .returned (erV V1 V2 V3 V5 (wrg N M (lft S p)) p) ∧ Below w.heap.size w w' := by
  have C1 := hid (word0_any b S na N nc p o w h hp hSz)
  have HW : Hid (wrg N M (lft S p) = if wrd (lft S p) ≠ [] ∧ lf N M (wrd (lft S p)) = none then 4 else 3) := hid rfl
  have hV := lf_V N M (wrd (lft S p))
  have C2 : Hid (∀ u, Rd u b S na N nc p o → Below w0.heap.size w0 u → Calls Tryd.prog 51 #[.pointer (some ⟨b, 0, none⟩), .string (byt (wrd (lft S p)))] u fun e w' => e = .returned (.tuple #[.agg #[.int .i64 (lfV N M (wrd (lft S p))).1, .int .i64 (lfV N M (wrd (lft S p))).2.1, .slice none 0 0], .bool (lfV N M (wrd (lft S p))).2.2]) ∧ Below u.heap.size u w') := fun u h1 h2 => leaf_any hS b S p o (wrd (lft S p)) u h1 h2
  have HR := hid h
  have HB := hid hB
  have HEr := hid hE
  generalize lfV N M (wrd (lft S p)) = lv at *
  generalize hl : wrd (lft S p) = l at *
  have eb := byt_toList l
  clear h hS hE hB hl
  obtain ⟨a3, ha3⟩ := HEr.out.s3
  obtain ⟨a5, ha5⟩ := HEr.out.s5
  by_cases h0 : l = []
  · have hw : wrg N M (lft S p) = 3 := HW.out.trans (if_neg (by simp [h0]))
    rw [hw]
    have q0 : ((byt l).toList == []) = true := by rw [eb, h0]; rfl
    have E : Hid (erV V1 V2 V3 V5 3 p = .iface 72 (.agg #[V5, .int .i64 p])) := hid <| by simp [erV]
    clear hw h0 HW hV C2 eb
    generalize byt l = bl at *
    go_enter Tryd.func36, Tryd.ntmps36
    go_wp2_with fail
    refine C1.out.mono ?_
    rintro e w' ⟨rfl, q, rfl⟩
    have g2 := HR.out.c2
    have g5 := (HEr.out.below HB.out).e5
    clear C1
    go_wp2
    go_quiet (fail)
    go_wp2
    go_ret
    exact ⟨by rw [E.out, ha5]; rfl, below_drewN (below_drewN (Below.refl _ _) _) _⟩
  have q0 : ((byt l).toList == []) = false := by rw [eb]; exact beq_eq_false_iff_ne.2 h0
  obtain ⟨lk, ln, lb⟩ := lv
  cases lb
  · have hw : wrg N M (lft S p) = 4 := HW.out.trans (if_pos ⟨h0, hV⟩)
    rw [hw]
    have E : Hid (erV V1 V2 V3 V5 4 p = .iface 72 (.agg #[V3, .int .i64 p])) := hid <| by simp [erV]
    clear hw h0 HW hV eb
    generalize byt l = bl at *
    go_enter Tryd.func36, Tryd.ntmps36
    go_wp2_with fail
    refine C1.out.mono ?_
    rintro e w' ⟨rfl, q, rfl⟩
    have C2' := hid (C2.out _ (HR.out.drewN q) (below_drewN HB.out q))
    clear C1 C2
    go_wp2_with fail
    refine C2'.out.mono ?_
    rintro e w2 ⟨rfl, hb2⟩
    have HB2 : Hid (Below w.heap.size w w2) := (below_drewN (Below.refl _ _) q).trans hb2
    have hr := HR.out.below HB2.out
    have g2 := hr.c2
    have g3 := (HEr.out.below (HB.out.trans (HB2.out.mono HB.out.size))).e3
    have hlt := hr.lt
    have h3lt : 3 < w2.heap.size := World.block_lt_of_cell? _ _ g3
    clear C2' hb2
    go_wp2
    go_quiet (fail)
    go_wp2
    go_ret
    exact ⟨by rw [E.out, ha3]; rfl, below_drewN (HB2.out.alloc HB2.out.size _) _⟩
  · have hw : wrg N M (lft S p) = 3 := HW.out.trans (if_neg (by rw [hV]; simp))
    rw [hw]
    have E : Hid (erV V1 V2 V3 V5 3 p = .iface 72 (.agg #[V5, .int .i64 p])) := hid <| by simp [erV]
    clear hw h0 HW hV eb
    generalize byt l = bl at *
    go_enter Tryd.func36, Tryd.ntmps36
    go_wp2_with fail
    refine C1.out.mono ?_
    rintro e w' ⟨rfl, q, rfl⟩
    have C2' := hid (C2.out _ (HR.out.drewN q) (below_drewN HB.out q))
    clear C1 C2
    go_wp2_with fail
    refine C2'.out.mono ?_
    rintro e w2 ⟨rfl, hb2⟩
    have HB2 : Hid (Below w.heap.size w w2) := (below_drewN (Below.refl _ _) q).trans hb2
    have hr := HR.out.below HB2.out
    have g2 := hr.c2
    have g5 := (HEr.out.below (HB.out.trans (HB2.out.mono HB.out.size))).e5
    have hlt := hr.lt
    have h5lt : 5 < w2.heap.size := World.block_lt_of_cell? _ _ g5
    clear C2' hb2
    go_wp2
    go_quiet (fail)
    go_wp2
    go_ret
    exact ⟨by rw [E.out, ha5]; rfl, below_drewN (HB2.out.alloc HB2.out.size _) _⟩

end Go.Proofs.YtgpjlgffmlkkoaaDoor
